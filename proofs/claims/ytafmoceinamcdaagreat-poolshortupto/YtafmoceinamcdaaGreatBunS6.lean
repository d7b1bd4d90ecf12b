/- Put together by a program out of these texts of mine: DOwn, DCl, DEa, VPn, VEn, VDp, VDq, VDr. -/
import Derived.ProofKit
import Derived.Maps.AppendAt
import Derived.WalkLawsBesides
import Derived.Deep.DeepCutAuto
import Derived.Laws.EntriesVeiled
import Derived.Test.YtafmoceinamcdaaGreatBunS2
import Derived.Test.YtafmoceinamcdaaGreatBunS4
import Derived.Test.YtafmoceinamcdaaGreatBunS5

namespace Go.Proofs.YtafmoceinamcdaaGreat
open Go.RowKit
set_option linter.unusedVariables false
set_option linter.unusedSimpArgs false

inductive Own (P : Program) (w : World) (lo : Nat) (A : TypeId → Prop) : TypeId → Md → Prop
  | str {T : TypeId} {s : ByteArray} (hT : P.underlying T = some .string) : Own P w lo A T (.str s)
  | num {T : TypeId} {k : IntKind} {n : Int} (hT : P.underlying T = some (.int k)) : Own P w lo A T (.num k n)
  | tru {T : TypeId} {b : Bool} (hT : P.underlying T = some .bool) : Own P w lo A T (.tru b)
  | ls {T E : TypeId} {a : Option Addr} {n c : Nat} {ms : List Md} (hT : P.underlying T = some (.slice E)) (hA : A E) (ho : w.ownsRow lo E (flds P E).length (.slice a n c) n (ms.map Md.val))
      (hk : ∀ i m F, ms[i]? = some m → (flds P E)[i % (flds P E).length]? = some F → Own P w lo A F m) : Own P w lo A T (.ls a n c ms)

theorem Own.under {P : Program} {w w' : World} {lo : Nat} {A : TypeId → Prop} (hb : Below w.heap.size w w') {T : TypeId} {m : Md} (h : Own P w lo A T m) : Own P w' lo A T m := by
  induction h with
  | str hT => exact .str hT
  | num hT => exact .num hT
  | tru hT => exact .tru hT
  | ls hT hA ho hk ih => exact .ls hT hA (own_below ho hb) (fun i m F hi hF => ih i m F hi hF)

theorem Own.from {P : Program} {w : World} {lo lo' : Nat} {A : TypeId → Prop} (hl : lo' ≤ lo) {T : TypeId} {m : Md} (h : Own P w lo A T m) : Own P w lo' A T m := by
  induction h with
  | str hT => exact .str hT
  | num hT => exact .num hT
  | tru hT => exact .tru hT
  | ls hT hA ho hk ih => exact .ls hT hA (own_base ho hl) (fun i m F hi hF => ih i m F hi hF)

inductive Alk : Md → Md → Prop
  | str {s : ByteArray} : Alk (.str s) (.str s)
  | num {k : IntKind} {n : Int} : Alk (.num k n) (.num k n)
  | tru {b : Bool} : Alk (.tru b) (.tru b)
  | ls {a a' : Option Addr} {n c c' : Nat} {ms ms' : List Md} (hl : ms.length = ms'.length) (h : ∀ (i : Nat) (m m' : Md), ms[i]? = some m → ms'[i]? = some m' → Alk m m') : Alk (.ls a n c ms) (.ls a' n c' ms')

inductive Sz (P : Program) : TypeId → Md → Prop
  | str {T : TypeId} {s : ByteArray} (h : s.size ≤ 140737488355328) : Sz P T (.str s)
  | num {T : TypeId} {k : IntKind} {n : Int} : Sz P T (.num k n)
  | tru {T : TypeId} {b : Bool} : Sz P T (.tru b)
  | ls {T E : TypeId} {a : Option Addr} {n c : Nat} {ms : List Md} (hT : P.underlying T = some (.slice E)) (hb : n * P.bytesOf E ≤ 140737488355328) (hk : ∀ i m F, ms[i]? = some m → (flds P E)[i % (flds P E).length]? = some F → Sz P F m) : Sz P T (.ls a n c ms)

def Cpy (w : World) (lo : Nat) (A : TypeId → Prop) (T : TypeId) (m : Md) (v : Value) : Prop := ∃ m', v = m'.val ∧ Own Tryz.prog w lo A T m' ∧ Alk m m'

theorem Cpy.under {w w' : World} {lo : Nat} {A : TypeId → Prop} {T : TypeId} {m : Md} {v : Value} (h : Cpy w lo A T m v) (hb : Below w.heap.size w w') : Cpy w' lo A T m v := by
  obtain ⟨m', h1, h2, h3⟩ := h
  exact ⟨m', h1, h2.under hb, h3⟩

theorem Cpy.from {w : World} {lo lo' : Nat} {A : TypeId → Prop} {T : TypeId} {m : Md} {v : Value} (h : Cpy w lo A T m v) (hl : lo' ≤ lo) : Cpy w lo' A T m v := by
  obtain ⟨m', h1, h2, h3⟩ := h
  exact ⟨m', h1, h2.from hl, h3⟩

theorem flds_u8 : flds Tryz.prog 5 = [5] := by kernel_rfl

theorem ok_bs {w : World} {a : Option Addr} {n c : Nat} {ms : List Md} (h : Ok Tryz.prog w 38 (.ls a n c ms)) : ∃ zs : List Int, ms = zs.map (Md.num .u8) ∧ Bs w a n c zs := by
  cases h with
  | ls hT hnc hm hnil hlen hmem hk =>
    rename_i E
    have hE : E = 5 := by
      have := Tryz.underlying38
      rw [this] at hT
      cases hT
      rfl
    subst hE
    rw [flds_u8] at hlen hk
    have hz : ∀ m ∈ ms, ∃ z : Int, m = .num .u8 z ∧ 0 ≤ z ∧ z ≤ 255 := by
      intro m hm'
      obtain ⟨i, hi⟩ := List.getElem?_of_mem hm'
      have ok := hk i m 5 hi (by simp [Nat.mod_one])
      cases ok with
      | str hT => rw [Tryz.underlying5] at hT; cases hT
      | tru hT => rw [Tryz.underlying5] at hT; cases hT
      | ls hT => rw [Tryz.underlying5] at hT; cases hT
      | num hT hw =>
        rw [Tryz.underlying5] at hT
        cases hT
        exact ⟨_, rfl, bounds_u8 hw⟩
    obtain ⟨zs, hzs⟩ : ∃ zs : List Int, ms = zs.map (Md.num .u8) := by
      clear hlen hmem hk
      induction ms with
      | nil => exact ⟨[], rfl⟩
      | cons m r ih =>
        obtain ⟨zs, h1⟩ := ih (fun x hx => hz x (List.mem_cons_of_mem _ hx))
        obtain ⟨z, h2, _⟩ := hz m List.mem_cons_self
        exact ⟨z :: zs, by rw [h1, h2]; rfl⟩
    subst hzs
    refine ⟨zs, rfl, by simpa using hlen, by unfold maxLen at hm; omega, getD_bd (fun z hzm => ?_), hnc, hnil, fun hp => ?_⟩
    · obtain ⟨z', h1, h2⟩ := hz (.num .u8 z) (List.mem_map.2 ⟨z, hzm, rfl⟩)
      cases h1
      exact h2
    · obtain ⟨b, off, h1, h2, h3⟩ := hmem hp
      refine ⟨b, off, h1, h2, fun i hi => ?_⟩
      have hil : i < zs.length := by simp at hlen; omega
      have := h3 i (.num .u8 zs[i]) (by rw [List.getElem?_map, List.getElem?_eq_getElem hil]; rfl)
      rw [this]
      simp [Md.val, List.getD, List.getElem?_eq_getElem hil]

set_option maxHeartbeats 400000 in
theorem kclone_any (S : ByteArray) (w : World) (hlen : Hid (S.size ≤ 140737488355328)) :
    Calls Tryz.prog 45 #[.string S] w fun e w' => e = .returned (.string S) ∧ Below w.heap.size w w' := by
  have Q : Hid _ := Sh.stringslite_Clone S w (by have := hlen.out; omega)
  clear hlen
  go_enter Tryz.func45, Tryz.ntmps45
  go_wp2_with fail
  refine Calls.mono Q.out ?_
  rintro e w1 ⟨rfl, hb⟩
  go_wp2
  go_ret
  exact ⟨rfl, hb⟩

set_option maxHeartbeats 1000000 in
theorem kbytes_some (a : Addr) (len cap : Nat) (zs : List Int) (w : World) (hbs : Hid (Bs w (some a) len cap zs)) (HL : Hid (len ≤ 140737488355328)) :
    Calls Tryz.prog 85 #[.slice (some a) len cap] w fun e w' => ∃ a3 c3, e = .returned (.slice a3 len c3) ∧ w'.ownsRow w.heap.size 5 1 (.slice a3 len c3) len (zs.map (Value.int .u8)) ∧ Below w.heap.size w w' := by
  have hrun : ∀ w, (binOp .eql 38 (.slice (some a) len cap) (.slice none 0 0)).run Tryz.prog w = .ok (.bool false) w := fun w => by kernel_rfl
  go_enter Tryz.func85, Tryz.ntmps85
  have HO : Hid ((w.alloc (.cells #[] 5)).ownsRow w.heap.size 5 1 (.slice (some ⟨w.heap.size, 0, none⟩) 0 0) 0 []) := ⟨rfl, .inr ⟨w.heap.size, 0, #[], rfl, Nat.le_refl _, heap_alloc_new _ _, Nat.le_refl _, by decide, rfl, rfl⟩⟩
  have HB : Hid (Bs (w.alloc (.cells #[] 5)) (some a) len cap zs) := hbs.out.below ((Below.refl _ _).alloc (Nat.le_refl _) _) (Nat.le_refl _)
  have HG : Hid (Below w.heap.size w (w.alloc (.cells #[] 5))) := (Below.refl _ _).alloc (Nat.le_refl _) _
  have hl := HL.out
  go_wp2_with (at_builtin; refine wpList_append_bs rfl _ _ rfl w.heap.size _ 0 [] _ len _ zs rfl rfl HO.out HB.out (by omega) (by simp) ?_; intro v3 w3 hown3 hgrow3; rw [Nat.zero_add, List.nil_append] at hown3; obtain ⟨a3, c3, rfl⟩ := own_slice hown3)
  go_ret
  exact ⟨a3, c3, rfl, hown3, HG.out.grown hgrow3 (by simp) (fun k hk => by cases hk; exact Nat.le_refl _)⟩

theorem kbytes_none (w : World) :
    Calls Tryz.prog 85 #[.slice none 0 0] w fun e w' => e = .returned (.slice none 0 0) ∧ w = w' := by
  have hrun : ∀ w, (binOp .eql 38 (.slice none 0 0) (.slice none 0 0)).run Tryz.prog w = .ok (.bool true) w := fun w => by kernel_rfl
  go_enter Tryz.func85, Tryz.ntmps85
  go_wp2
  go_ret
  exact ⟨rfl, rfl⟩

theorem kbytes_any (A : TypeId → Prop) (hA : A 5) (a : Option Addr) (n c : Nat) (ms : List Md) (w : World) (ho : Hid (Ok Tryz.prog w 38 (.ls a n c ms))) (hs : Hid (Sz Tryz.prog 38 (.ls a n c ms))) :
    Calls Tryz.prog 85 #[.slice a n c] w fun e w' => ∃ v, e = .returned v ∧ Cpy w' w.heap.size A 38 (.ls a n c ms) v ∧ Below w.heap.size w w' := by
  obtain ⟨zs, rfl, hb⟩ := ok_bs ho.out
  have hn : n ≤ 140737488355328 := by
    have hs' := hs.out
    cases hs' with
    | ls hT hb' hk =>
      rw [Tryz.underlying38] at hT
      cases hT
      have : Tryz.prog.bytesOf 5 = 1 := by kernel_rfl
      rw [this] at hb'
      omega
  have alk : ∀ a' c', Alk (.ls a n c (zs.map (Md.num .u8))) (.ls a' n c' (zs.map (Md.num .u8))) := fun a' c' => .ls rfl (fun i m m' h1 h2 => by
    rw [h1] at h2
    cases h2
    rw [List.getElem?_map] at h1
    cases hz : zs[i]? with
    | none => rw [hz] at h1; cases h1
    | some z => rw [hz] at h1; cases h1; exact .num)
  cases a with
  | none =>
    have hc : c = 0 := hb.2.2.2.2.1 rfl
    have hn0 : n = 0 := by have := hb.2.2.2.1; omega
    subst hc hn0
    refine (kbytes_none w).mono ?_
    rintro e w' ⟨rfl, rfl⟩
    have hz : zs = [] := List.eq_nil_of_length_eq_zero hb.1
    subst hz
    exact ⟨_, rfl, ⟨.ls none 0 0 [], rfl, .ls Tryz.underlying38 hA (World.ownsRow_nil _ _ _ _) (fun i m F h => by simp at h), alk _ _⟩, Below.refl _ _⟩
  | some a =>
    refine (kbytes_some a n c zs w hb hn).mono ?_
    rintro e w' ⟨a3, c3, rfl, hown, hbl⟩
    refine ⟨_, rfl, ⟨.ls a3 n c3 (zs.map (Md.num .u8)), rfl, .ls Tryz.underlying38 hA ?_ (fun i m F h hF => ?_), alk _ _⟩, hbl⟩
    · rw [flds_u8, List.map_map]
      exact hown
    · rw [flds_u8] at hF
      have hF' : F = 5 := by
        have : i % [(5 : TypeId)].length = 0 := by simp [Nat.mod_one]
        rw [this] at hF
        cases hF
        rfl
      subst hF'
      rw [List.getElem?_map] at h
      cases hz : zs[i]? with
      | none => rw [hz] at h; cases h
      | some z => rw [hz] at h; cases h; exact .num Tryz.underlying5

theorem kunk_any (A : TypeId → Prop) (hA : A 5) (lv : Value) (a : Option Addr) (n c : Nat) (ms : List Md) (w : World) (ho : Hid (Ok Tryz.prog w 38 (.ls a n c ms))) (hs : Hid (Sz Tryz.prog 38 (.ls a n c ms))) :
    Calls Tryz.prog 86 #[.agg #[lv, .bool false], .slice a n c] w fun e w' => ∃ v, e = .returned v ∧ Cpy w' w.heap.size A 38 (.ls a n c ms) v ∧ Below w.heap.size w w' := by
  have HB : Hid (Below w.heap.size w (w.alloc (.cells #[lv, .bool false] 100))) := (Below.refl _ _).alloc (Nat.le_refl _) _
  have Q : Hid _ := kbytes_any A hA a n c ms _ (show Hid _ from ho.out.under HB.out (Nat.le_refl _)) hs
  go_enter Tryz.func86, Tryz.ntmps86
  go_wp2_with fail
  refine Calls.mono Q.out ?_
  rintro e w1 ⟨v, rfl, hc, hb⟩
  go_wp2
  go_ret
  exact ⟨v, rfl, hc.from (by simp), HB.out.trans (hb.mono (by simp))⟩

def CpyL (w : World) (lo : Nat) (A : TypeId → Prop) (Ts : List TypeId) (ms : List Md) (cs : List Value) : Prop :=
  ∃ ms' : List Md, cs = ms'.map Md.val ∧ ms'.length = ms.length ∧ ∀ (i : Nat) (m m' : Md) (F : TypeId), ms[i]? = some m → ms'[i]? = some m' → Ts[i]? = some F → Own Tryz.prog w lo A F m' ∧ Alk m m'

theorem CpyL.nil (w : World) (lo : Nat) (A : TypeId → Prop) : CpyL w lo A [] [] [] := ⟨[], rfl, rfl, fun i m m' F h => by simp at h⟩

theorem CpyL.cons {w : World} {lo : Nat} {A : TypeId → Prop} {T : TypeId} {Ts : List TypeId} {m : Md} {ms : List Md} {v : Value} {cs : List Value} (h : Cpy w lo A T m v) (hs : CpyL w lo A Ts ms cs) : CpyL w lo A (T :: Ts) (m :: ms) (v :: cs) := by
  obtain ⟨m', rfl, h1, h2⟩ := h
  obtain ⟨ms', rfl, hl, hk⟩ := hs
  refine ⟨m' :: ms', rfl, by simp [hl], fun i x x' F hx hx' hF => ?_⟩
  cases i with
  | zero => simp at hx hx' hF; subst hx hx' hF; exact ⟨h1, h2⟩
  | succ i => exact hk i x x' F (by simpa using hx) (by simpa using hx') (by simpa using hF)

theorem CpyL.under {w w' : World} {lo : Nat} {A : TypeId → Prop} {Ts : List TypeId} {ms : List Md} {cs : List Value} (h : CpyL w lo A Ts ms cs) (hb : Below w.heap.size w w') : CpyL w' lo A Ts ms cs := by
  obtain ⟨ms', h1, h2, h3⟩ := h
  exact ⟨ms', h1, h2, fun i m m' F a b c => ⟨(h3 i m m' F a b c).1.under hb, (h3 i m m' F a b c).2⟩⟩

theorem Cpy.num {w : World} {lo : Nat} {A : TypeId → Prop} {T : TypeId} {k : IntKind} (n : Int) (hT : Tryz.prog.underlying T = some (.int k)) : Cpy w lo A T (.num k n) (.int k n) := ⟨.num k n, rfl, .num hT, .num⟩

theorem Cpy.tru {w : World} {lo : Nat} {A : TypeId → Prop} {T : TypeId} (b : Bool) (hT : Tryz.prog.underlying T = some .bool) : Cpy w lo A T (.tru b) (.bool b) := ⟨.tru b, rfl, .tru hT, .tru⟩

def Src (w : World) (T : TypeId) (m : Md) : Prop := Ok Tryz.prog w T m ∧ Sz Tryz.prog T m

theorem Src.under {w w' : World} {T : TypeId} {m : Md} (h : Src w T m) (hb : Below w.heap.size w w') : Src w' T m := ⟨h.1.under hb (Nat.le_refl _), h.2⟩

theorem cpy_ls {w : World} {lo : Nat} {A : TypeId → Prop} {T : TypeId} {a : Option Addr} {n c : Nat} {ms : List Md} {v : Value} (h : Cpy w lo A T (.ls a n c ms) v) : ∃ a' c', v = .slice a' n c' := by
  obtain ⟨m', rfl, _, h2⟩ := h
  cases h2 with
  | ls hl h => exact ⟨_, _, rfl⟩

theorem Own.set {P : Program} {w : World} {lo : Nat} {A : TypeId → Prop} {T : TypeId} {m : Md} (h : Own P w lo A T m) {b : Nat} (hb : b < lo) (j : Nat) (v : Value) : Own P (w.setCell ⟨b, j, none⟩ v) lo A T m := by
  induction h with
  | str hT => exact .str hT
  | num hT => exact .num hT
  | tru hT => exact .tru hT
  | ls hT hA ho hk ih => exact .ls hT hA (ownsRow_setCell_below ho (a := ⟨b, j, none⟩) hb v) (fun i m F hi hF => ih i m F hi hF)

theorem Cpy.set {w : World} {lo : Nat} {A : TypeId → Prop} {T : TypeId} {m : Md} {u : Value} (h : Cpy w lo A T m u) {b : Nat} (hb : b < lo) (j : Nat) (v : Value) : Cpy (w.setCell ⟨b, j, none⟩ v) lo A T m u := by
  obtain ⟨m', h1, h2, h3⟩ := h
  exact ⟨m', h1, h2.set hb j v, h3⟩

theorem Cpy.str {w : World} {lo : Nat} {A : TypeId → Prop} (s : ByteArray) : Cpy w lo A 9 (.str s) (.string s) := ⟨.str s, rfl, .str Tryz.underlying9, .str⟩

theorem Own.mono {P : Program} {w : World} {lo : Nat} {A A' : TypeId → Prop} (hA : ∀ E, A E → A' E) {T : TypeId} {m : Md} (h : Own P w lo A T m) : Own P w lo A' T m := by
  induction h with
  | str hT => exact .str hT
  | num hT => exact .num hT
  | tru hT => exact .tru hT
  | ls hT hAE ho hk ih => exact .ls hT (hA _ hAE) ho (fun i m F hi hF => ih i m F hi hF)

theorem Own.grown {P : Program} {w w' : World} {lo : Nat} {A : TypeId → Prop} {row : Option Nat} {E0 : TypeId} (hg : w.grownBy w' row) (hrow : ∀ g, row = some g → ∃ cs z, w.heap[g]? = some (.cells cs E0 z)) (hA : ∀ E, A E → E ≠ E0) {T : TypeId} {m : Md} (h : Own P w lo A T m) : Own P w' lo A T m := by
  induction h with
  | str hT => exact .str hT
  | num hT => exact .num hT
  | tru hT => exact .tru hT
  | ls hT hAE ho hk ih =>
    rename_i T E a n c ms
    refine .ls hT hAE (ho.kept hg ?_) (fun i m F hi hF => ih i m F hi hF)
    rcases ho.2 with ⟨he, _⟩ | ⟨g, cap, cur, he, _, hh, _⟩
    · exact .inl (by rw [he]; rfl)
    · refine .inr (fun e => ?_)
      rw [he] at e
      obtain ⟨cs, z, h1⟩ := hrow g e.symm
      rw [hh] at h1
      cases h1
      exact hA _ hAE rfl

def Eac (w : World) (lo : Nat) (A : TypeId → Prop) (E : TypeId) (ms : List Md) (k : Nat) (v : Value) : Prop :=
  ∃ ms' : List Md, w.ownsRow lo E (flds Tryz.prog E).length v k (ms'.map Md.val) ∧ ∀ (i : Nat) (m m' : Md) (F : TypeId), ms[i]? = some m → ms'[i]? = some m' → (flds Tryz.prog E)[i % (flds Tryz.prog E).length]? = some F → Own Tryz.prog w lo A F m' ∧ Alk m m'

theorem Eac.nil (w : World) (lo : Nat) (A : TypeId → Prop) (E : TypeId) (ms : List Md) : Eac w lo A E ms 0 (.slice none 0 0) := ⟨[], World.ownsRow_nil _ _ _ _, fun i m m' F _ h => by simp at h⟩

theorem Eac.under {w w' : World} {lo : Nat} {A : TypeId → Prop} {E : TypeId} {ms : List Md} {k : Nat} {v : Value} (h : Eac w lo A E ms k v) (hb : Below w.heap.size w w') : Eac w' lo A E ms k v := by
  obtain ⟨ms', h1, h2⟩ := h
  exact ⟨ms', own_below h1 hb, fun i m m' F a b c => ⟨(h2 i m m' F a b c).1.under hb, (h2 i m m' F a b c).2⟩⟩

theorem Eac.push {w w' : World} {lo : Nat} {A : TypeId → Prop} {E : TypeId} {ms es : List Md} {k : Nat} {v v' : Value} {cs : List Value} {ms' : List Md} (hA : ∀ X, A X → X ≠ E) (h1 : w.ownsRow lo E (flds Tryz.prog E).length v k (ms'.map Md.val)) (h2 : ∀ (i : Nat) (m m' : Md) (F : TypeId), ms[i]? = some m → ms'[i]? = some m' → (flds Tryz.prog E)[i % (flds Tryz.prog E).length]? = some F → Own Tryz.prog w lo A F m' ∧ Alk m m') (hc : CpyL w lo A (flds Tryz.prog E) es cs) (hel : es.length = (flds Tryz.prog E).length)
    (hes : ∀ j, j < (flds Tryz.prog E).length → ms[k * (flds Tryz.prog E).length + j]? = es[j]?)
    (hg : w.grownBy w' v.ownBlock) (ho : w'.ownsRow lo E (flds Tryz.prog E).length v' (k + 1) (ms'.map Md.val ++ cs)) : Eac w' lo A E ms (k + 1) v' := by
  obtain ⟨es', rfl, hl, hk⟩ := hc
  have hrow : ∀ g, v.ownBlock = some g → ∃ cs z, w.heap[g]? = some (.cells cs E z) := by
    intro g e
    rcases h1.2 with ⟨he, _⟩ | ⟨g', cap, cur, he, _, hh, _⟩
    · rw [he] at e; cases e
    · rw [he] at e
      cases e
      exact ⟨_, _, hh⟩
  have hlen : ms'.length = k * (flds Tryz.prog E).length := by simpa using h1.1
  refine ⟨ms' ++ es', by simpa using ho, fun i m m' F hm hm' hF => ?_⟩
  by_cases hi : i < ms'.length
  · rw [List.getElem?_append_left hi] at hm'
    obtain ⟨g1, g2⟩ := h2 i m m' F hm hm' hF
    exact ⟨g1.grown hg hrow hA, g2⟩
  · rw [List.getElem?_append_right (by omega)] at hm'
    have hj : i - ms'.length < (flds Tryz.prog E).length := by
      have := (List.getElem?_eq_some_iff.1 hm').1
      omega
    have he := hes (i - ms'.length) hj
    rw [show k * (flds Tryz.prog E).length + (i - ms'.length) = i by omega, hm] at he
    have hmod : i % (flds Tryz.prog E).length = i - ms'.length := by
      have e1 : i = (i - ms'.length) + k * (flds Tryz.prog E).length := by omega
      rw [e1, Nat.add_mul_mod_self_right, Nat.mod_eq_of_lt (by omega)]
      omega
    rw [hmod] at hF
    obtain ⟨g1, g2⟩ := hk _ m m' F he.symm hm' hF
    exact ⟨g1.grown hg hrow hA, g2⟩

theorem mod_get {fs : List TypeId} (hz : ¬ fs.length = 0) (i : Nat) : ∃ F, fs[i % fs.length]? = some F := ⟨_, List.getElem?_eq_getElem (Nat.mod_lt _ (by omega))⟩

theorem Eac.all {w : World} {lo : Nat} {A A' : TypeId → Prop} {T E : TypeId} {a : Option Addr} {n c : Nat} {ms : List Md} {v : Value} (hT : Tryz.prog.underlying T = some (.slice E)) (hA : ∀ X, A X → A' X) (hE : A' E) (hl : ms.length = n * (flds Tryz.prog E).length) (h : Eac w lo A E ms n v) : Cpy w lo A' T (.ls a n c ms) v := by
  obtain ⟨ms', h1, h2⟩ := h
  have hlen : ms'.length = n * (flds Tryz.prog E).length := by simpa using h1.1
  obtain ⟨a', c', rfl⟩ := own_slice h1
  have hget : ∀ i m', ms'[i]? = some m' → ∃ m, ms[i]? = some m := fun i m' h => ⟨_, List.getElem?_eq_getElem (by have := (List.getElem?_eq_some_iff.1 h).1; omega)⟩
  refine ⟨.ls a' n c' ms', rfl, .ls hT hE h1 (fun i m' F hi hF => ?_), .ls (by omega) (fun i m m' hm hm' => ?_)⟩
  · obtain ⟨m, hm⟩ := hget i m' hi
    exact (h2 i m m' F hm hi hF).1.mono hA
  · by_cases hz : (flds Tryz.prog E).length = 0
    · exfalso
      rw [hz] at hlen
      have := (List.getElem?_eq_some_iff.1 hm').1
      simp at hlen
      rw [hlen] at this
      simp at this
    · obtain ⟨F, hF⟩ := mod_get (fs := flds Tryz.prog E) hz i
      exact (h2 i m m' _ hm hm' hF).2

abbrev Sy := ByteArray → Option (Int × ByteArray)

def syPut (h : Sy) (F : ByteArray) (x : Int × ByteArray) : Sy := fun k => if k = F then some x else h k

def insl (H : ByteArray) : Sy → List (ByteArray × Int) → Except ByteArray Sy
  | h, [] => .ok h
  | h, (F, kd) :: r => if (h F).isNone then insl H (syPut h F (kd, H)) r else .error F

theorem insl_append (H : ByteArray) : ∀ (l r : List (ByteArray × Int)) (h : Sy), insl H h (l ++ r) = match insl H h l with | .ok h' => insl H h' r | .error F => .error F
  | [], r, h => rfl
  | (F, kd) :: l, r, h => by
    show (if (h F).isNone then insl H (syPut h F (kd, H)) (l ++ r) else .error F) = _
    by_cases hF : (h F).isNone = true
    · rw [if_pos hF, insl_append H l r, insl, if_pos hF]
    · rw [if_neg hF, insl, if_neg hF]

theorem insl_one (H : ByteArray) (h : Sy) (F : ByteArray) (kd : Int) (r : List (ByteArray × Int)) (hF : h F = none) : insl H h ((F, kd) :: r) = insl H (syPut h F (kd, H)) r := by rw [insl, if_pos (by rw [hF]; rfl)]

theorem insl_dup (H : ByteArray) (h : Sy) (F : ByteArray) (kd : Int) (r : List (ByteArray × Int)) (hF : h F ≠ none) : insl H h ((F, kd) :: r) = .error F := by
  rw [insl, if_neg]
  cases hh : h F with
  | none => exact absurd hh hF
  | some x => simp

def Gs (R : Option Addr → Prop) (g : ByteArray → Option Value) (h : Sy) : Prop :=
  ∀ k, (h k = none → g k = none) ∧ ∀ kd H, h k = some (kd, H) → ∃ p1 p2 p3, g k = some (.agg #[.int .i64 kd, .string H, .pointer p1, .pointer p2, .pointer p3]) ∧ (kd = 6 → R p3)

theorem Gs.mono {R R' : Option Addr → Prop} (hR : ∀ p, R p → R' p) {g : ByteArray → Option Value} {h : Sy} (hs : Gs R g h) : Gs R' g h := fun k => ⟨(hs k).1, fun kd H e => by
  obtain ⟨p1, p2, p3, h1, h2⟩ := (hs k).2 kd H e
  exact ⟨p1, p2, p3, h1, fun e => hR _ (h2 e)⟩⟩

theorem Gs.put {R : Option Addr → Prop} {g : ByteArray → Option Value} {h : Sy} (hs : Gs R g h) (F : ByteArray) (kd : Int) (H : ByteArray) (p1 p2 p3 : Option Addr) (hR : kd = 6 → R p3 := by intro h; exact absurd h (by decide)) : Gs R (gput g F (.agg #[.int .i64 kd, .string H, .pointer p1, .pointer p2, .pointer p3])) (syPut h F (kd, H)) := by
  intro k
  unfold gput syPut
  by_cases hk : k = F
  · rw [if_pos hk, if_pos hk]
    refine ⟨fun e => (by cases e), fun kd' H' e => ?_⟩
    cases e
    exact ⟨_, _, _, rfl, hR⟩
  · rw [if_neg hk, if_neg hk]
    exact hs k

def Px (R : Option Addr → Prop) (w : World) (bp bs be : Nat) (vf : Value) (h : Sy) : Prop := ∃ n g, Pq w bp bs be vf n g ∧ Gs R g h

theorem Px.below {R : Option Addr → Prop} {w w' : World} {bp bs be : Nat} {vf : Value} {h : Sy} (hp : Px R w bp bs be vf h) {B : Nat} (hb : Below B w w') (hB : w.heap.size ≤ B) : Px R w' bp bs be vf h := by
  obtain ⟨n, g, h1, h2⟩ := hp
  exact ⟨n, g, h1.below hb hB, h2⟩

noncomputable def numsOf (s : ByteArray) : List Int := (str_nums s).choose

theorem numsOf_str (s : ByteArray) : strOfNums (numsOf s) = s := (str_nums s).choose_spec.1.symm

theorem numsOf_byts (s : ByteArray) : byts (numsOf s) := fun x hx => by
  have h := (str_nums s).choose_spec.2
  obtain ⟨i, hi⟩ := List.getElem?_of_mem hx
  have := h i
  rw [List.getD_eq_getElem?_getD] at this
  unfold numsOf at hi
  rw [hi] at this
  exact this

theorem numsOf_len (s : ByteArray) : (numsOf s).length = s.size := by
  have := strOfNums_size (numsOf s)
  rw [numsOf_str] at this
  exact this.symm

noncomputable def jn (sc : List Int) (s : ByteArray) : ByteArray := strOfNums (njoin sc (numsOf s))

theorem qput (H : ByteArray) (sc : List Int) (s : ByteArray) (hsb : Hid (byts sc)) (hsl : sc.length ≤ 400000000) (hnl : s.size ≤ 400000000) (kd : Int) (p1 p2 p3 : Option Addr) (W : World) {R : Option Addr → Prop} {bp bs be : Nat} {vf : Value} {h : Sy} (hP : Hid (Px R W bp bs be vf h)) (hR : kd = 6 → R p3 := by intro h; exact absurd h (by decide)) :
    Calls Tryz.prog 147 #[.agg #[.pointer (some ⟨bp, 0, none⟩), .string H], .string (strOfNums sc), .string s, .agg #[.int .i64 kd, .string ⟨#[]⟩, .pointer p1, .pointer p2, .pointer p3]] W fun e W' =>
      W.grownBy W' (some bs) ∧ ((h (jn sc s) = none ∧ e = .returned (.string (jn sc s)) ∧ Px R W' bp bs be vf (syPut h (jn sc s) (kd, H))) ∨ (h (jn sc s) ≠ none ∧ e = .panicked [twi (jn sc s)])) := by
  obtain ⟨n, g, hq, hg⟩ := hP.out
  have hl : (numsOf s).length ≤ 400000000 := by rw [numsOf_len]; exact hnl
  have e1 : (Value.string s) = .string (strOfNums (numsOf s)) := by rw [numsOf_str]
  rw [e1]
  cases hh : h (jn sc s) with
  | none =>
    refine (qput_ok H sc (numsOf s) hsb (numsOf_byts s) hsl hl kd p1 p2 p3 W hq ((hg _).1 hh)).mono ?_
    rintro e W' ⟨rfl, h1, h2⟩
    exact ⟨h1, .inl ⟨rfl, rfl, _, _, hq.put h1 h2, hg.put _ _ _ _ _ _ hR⟩⟩
  | some x =>
    obtain ⟨v0, H0⟩ := x
    obtain ⟨q1, q2, q3, h3, _⟩ := (hg _).2 v0 H0 hh
    refine (qput_dup H sc (numsOf s) hsb (numsOf_byts s) hsl hl kd p1 p2 p3 W hq v0 H0 q1 q2 q3 h3).mono ?_
    rintro e W' ⟨rfl, h1⟩
    exact ⟨grown_ofV h1, .inr ⟨by simp, rfl⟩⟩

theorem Own.at {P : Program} {w : World} {lo : Nat} {A : TypeId → Prop} {T E : TypeId} {a : Option Addr} {n c : Nat} {ms : List Md} (h : Own P w lo A T (.ls a n c ms)) (hT : P.underlying T = some (.slice E)) (hz : 0 < (flds P E).length) : (n : Int) ≤ 9223372036854775807 ∧ ms.length = n * (flds P E).length ∧ (0 < n → ∃ g, a = some ⟨g, 0, none⟩ ∧ g < w.heap.size ∧ (∃ cs, w.heap[g]? = some (.cells cs E (0, 0))) ∧ ∀ i m, ms[i]? = some m → w.cell? ⟨g, i, none⟩ = some m.val) ∧ ∀ i m F, ms[i]? = some m → (flds P E)[i % (flds P E).length]? = some F → Own P w lo A F m := by
  cases h with
  | ls hT' hA ho hk =>
    rename_i E'
    rw [hT] at hT'
    cases hT'
    have hlen : ms.length = n * (flds P E).length := by simpa using ho.1
    refine ⟨?_, hlen, fun hp => ?_, hk⟩
    · rcases ho.2 with ⟨he, h0⟩ | ⟨g, cap, cur, he, hg, hh, h1, h2, h3, h4⟩
      · omega
      · unfold maxLen at h2
        omega
    · have ho' := ho
      rcases ho.2 with ⟨he, h0⟩ | ⟨g, cap, cur, he, hg, hh, h1, h2, h3, h4⟩
      · omega
      · cases he
        refine ⟨g, rfl, (ho.lt g rfl).2, ⟨_, hh⟩, fun i m hi => ?_⟩
        have hil : i < n * (flds P E).length := by rw [← hlen]; exact (List.getElem?_eq_some_iff.1 hi).1
        rw [ho.cellAt i hil, List.getElem?_map, hi]
        rfl

theorem own_str {P : Program} {w : World} {lo : Nat} {A : TypeId → Prop} {T : TypeId} {m : Md} (hu : P.underlying T = some .string) (h : Own P w lo A T m) : ∃ s, m = .str s := by
  cases h with
  | str _ => exact ⟨_, rfl⟩
  | num hT => rw [hu] at hT; cases hT
  | tru hT => rw [hu] at hT; cases hT
  | ls hT => rw [hu] at hT; cases hT

theorem own_ls {P : Program} {w : World} {lo : Nat} {A : TypeId → Prop} {T E : TypeId} {m : Md} (hu : P.underlying T = some (.slice E)) (h : Own P w lo A T m) : ∃ a n c ms, m = .ls a n c ms := by
  cases h with
  | str hT => rw [hu] at hT; cases hT
  | num hT => rw [hu] at hT; cases hT
  | tru hT => rw [hu] at hT; cases hT
  | ls hT => exact ⟨_, _, _, _, rfl⟩

theorem own_num {P : Program} {w : World} {lo : Nat} {A : TypeId → Prop} {T : TypeId} {k : IntKind} {m : Md} (hu : P.underlying T = some (.int k)) (h : Own P w lo A T m) : ∃ n, m = .num k n := by
  cases h with
  | str hT => rw [hu] at hT; cases hT
  | num hT => rw [hu] at hT; cases hT; exact ⟨_, rfl⟩
  | tru hT => rw [hu] at hT; cases hT
  | ls hT => rw [hu] at hT; cases hT

theorem own_tru {P : Program} {w : World} {lo : Nat} {A : TypeId → Prop} {T : TypeId} {m : Md} (hu : P.underlying T = some .bool) (h : Own P w lo A T m) : ∃ b, m = .tru b := by
  cases h with
  | str hT => rw [hu] at hT; cases hT
  | num hT => rw [hu] at hT; cases hT
  | tru hT => exact ⟨_, rfl⟩
  | ls hT => rw [hu] at hT; cases hT

theorem Own.mapped {P : Program} {w w' : World} {lo : Nat} {A : TypeId → Prop} {bs : Nat} (hg : w.grownBy w' (some bs)) (hbs : ∀ cs T z, w.heap[bs]? ≠ some (.cells cs T z)) {T : TypeId} {m : Md} (h : Own P w lo A T m) : Own P w' lo A T m := by
  induction h with
  | str hT => exact .str hT
  | num hT => exact .num hT
  | tru hT => exact .tru hT
  | ls hT hA ho hk ih =>
    refine .ls hT hA (ho.kept hg ?_) (fun i m F hi hF => ih i m F hi hF)
    rcases ho.2 with ⟨he, _⟩ | ⟨g, cap, cur, he, _, hh, _⟩
    · exact .inl (by rw [he]; rfl)
    · refine .inr (fun e => ?_)
      rw [he] at e
      cases e
      exact hbs _ _ _ hh

theorem Px.map {R : Option Addr → Prop} {w : World} {bp bs be : Nat} {vf : Value} {h : Sy} (hp : Px R w bp bs be vf h) : ∀ cs T z, w.heap[bs]? ≠ some (.cells cs T z) := by
  obtain ⟨n, g, h1, _⟩ := hp
  intro cs T z e
  obtain ⟨es, c, hm, _⟩ := h1.sym
  rw [e] at hm
  cases hm

def strAt (ms : List Md) (i : Nat) : ByteArray := match ms[i]? with | some (.str s) => s | _ => ⟨#[]⟩

def lsN (ms : List Md) (i : Nat) : Nat := match ms[i]? with | some (.ls _ n _ _) => n | _ => 0

def lsM (ms : List Md) (i : Nat) : List Md := match ms[i]? with | some (.ls _ _ _ m) => m | _ => []

noncomputable def valL (sc : List Int) (kd : Int) (sz : Nat) (ms : List Md) (n : Nat) : List (ByteArray × Int) := (List.range n).map fun j => (jn sc (strAt ms (j * sz)), kd)

noncomputable def enumL (sc : List Int) (ms : List Md) (n : Nat) : List (ByteArray × Int) := (List.range n).flatMap fun i => (jn sc (strAt ms (i * 4)), 3) :: valL sc 4 4 (lsM ms (i * 4 + 1)) (lsN ms (i * 4 + 1))

theorem enumL_succ (sc : List Int) (ms : List Md) (n : Nat) : enumL sc ms (n + 1) = enumL sc ms n ++ ((jn sc (strAt ms (n * 4)), 3) :: valL sc 4 4 (lsM ms (n * 4 + 1)) (lsN ms (n * 4 + 1))) := by
  unfold enumL
  rw [List.range_succ, List.flatMap_append]
  simp

theorem valL_succ (sc : List Int) (kd : Int) (sz : Nat) (ms : List Md) (n : Nat) : valL sc kd sz ms (n + 1) = valL sc kd sz ms n ++ [(jn sc (strAt ms (n * sz)), kd)] := by
  unfold valL
  rw [List.range_succ, List.map_append]
  simp

theorem range_split {n k : Nat} (h : k ≤ n) : List.range n = List.range k ++ (List.range (n - k)).map (k + ·) := by
  have := List.range_add (n := k) (m := n - k)
  rw [show k + (n - k) = n by omega] at this
  exact this

theorem enumL_split (sc : List Int) (ms : List Md) {n k : Nat} (h : k < n) : ∃ r, enumL sc ms n = enumL sc ms (k + 1) ++ r := by
  unfold enumL
  rw [range_split (show k + 1 ≤ n by omega), List.flatMap_append]
  exact ⟨_, rfl⟩

theorem valL_split (sc : List Int) (kd : Int) (sz : Nat) (ms : List Md) {n k : Nat} (h : k < n) : ∃ r, valL sc kd sz ms n = valL sc kd sz ms (k + 1) ++ r := by
  unfold valL
  rw [range_split (show k + 1 ≤ n by omega), List.map_append]
  exact ⟨_, rfl⟩

def Pend (R : Option Addr → Prop) (W : World) (bp bs be : Nat) (vf : Value) (r : Except ByteArray Sy) (v : Value) (e : Ending) (W' : World) : Prop :=
  W.grownBy W' (some bs) ∧ match r with
  | .ok h' => e = .returned v ∧ Px R W' bp bs be vf h'
  | .error F => e = .panicked [twi F]

inductive Nm : Md → Prop
  | str {s : ByteArray} (h : s.size ≤ 2000000) : Nm (.str s)
  | num {k : IntKind} {n : Int} : Nm (.num k n)
  | tru {b : Bool} : Nm (.tru b)
  | ls {a : Option Addr} {n c : Nat} {ms : List Md} (h : ∀ (i : Nat) (m : Md), ms[i]? = some m → Nm m) : Nm (.ls a n c ms)

theorem nm_str {s : ByteArray} (h : Nm (.str s)) : s.size ≤ 2000000 := by cases h; assumption

theorem nm_at {a : Option Addr} {n c : Nat} {ms : List Md} (h : Nm (.ls a n c ms)) {i : Nat} {m : Md} (hi : ms[i]? = some m) : Nm m := by
  cases h with
  | ls h => exact h i m hi

theorem flds_enu : flds Tryz.prog 43 = [9, 41, 38, 38] := by kernel_rfl

theorem flds_val : flds Tryz.prog 146 = [9, 2, 38, 38] := by kernel_rfl

theorem own_enum {w : World} {lo : Nat} {A : TypeId → Prop} {a : Option Addr} {n c : Nat} {ms : List Md} (h : Own Tryz.prog w lo A 35 (.ls a n c ms)) (hn : Nm (.ls a n c ms)) (i : Nat) (hi : i < n) :
    ∃ g s0 a1 n1 c1 m1 a2 n2 c2 a3 n3 c3, a = some ⟨g, 0, none⟩ ∧ g < w.heap.size ∧ w.cell? ⟨g, i * 4, none⟩ = some (.string s0) ∧ w.cell? ⟨g, i * 4 + 1, none⟩ = some (.slice a1 n1 c1) ∧ w.cell? ⟨g, i * 4 + 2, none⟩ = some (.slice a2 n2 c2) ∧ w.cell? ⟨g, i * 4 + 3, none⟩ = some (.slice a3 n3 c3) ∧
      s0.size ≤ 2000000 ∧ Own Tryz.prog w lo A 41 (.ls a1 n1 c1 m1) ∧ Nm (.ls a1 n1 c1 m1) ∧ strAt ms (i * 4) = s0 ∧ lsN ms (i * 4 + 1) = n1 ∧ lsM ms (i * 4 + 1) = m1 := by
  obtain ⟨_, hl, hm, hk⟩ := h.at Tryz.underlying35 (by rw [flds_enu]; decide)
  rw [flds_enu] at hl hk
  obtain ⟨g, rfl, hg, _, hc⟩ := hm (by omega)
  have hq : ∀ j, j < 4 → ∃ m, ms[i * 4 + j]? = some m := fun j hj => ⟨_, List.getElem?_eq_getElem (by simp at hl; omega)⟩
  have hmod : ∀ j, j < 4 → (i * 4 + j) % 4 = j := fun j hj => by omega
  obtain ⟨q0, h0⟩ := hq 0 (by omega)
  obtain ⟨q1, h1⟩ := hq 1 (by omega)
  obtain ⟨q2, h2⟩ := hq 2 (by omega)
  obtain ⟨q3, h3⟩ := hq 3 (by omega)
  have o0 := hk _ _ 9 h0 (by rw [show ([9, 41, 38, 38] : List TypeId).length = 4 from rfl, hmod 0 (by omega)]; rfl)
  have o1 := hk _ _ 41 h1 (by rw [show ([9, 41, 38, 38] : List TypeId).length = 4 from rfl, hmod 1 (by omega)]; rfl)
  have o2 := hk _ _ 38 h2 (by rw [show ([9, 41, 38, 38] : List TypeId).length = 4 from rfl, hmod 2 (by omega)]; rfl)
  have o3 := hk _ _ 38 h3 (by rw [show ([9, 41, 38, 38] : List TypeId).length = 4 from rfl, hmod 3 (by omega)]; rfl)
  obtain ⟨s0, rfl⟩ := own_str Tryz.underlying9 o0
  obtain ⟨a1, n1, c1, m1, rfl⟩ := own_ls Tryz.underlying41 o1
  obtain ⟨a2, n2, c2, m2, rfl⟩ := own_ls Tryz.underlying38 o2
  obtain ⟨a3, n3, c3, m3, rfl⟩ := own_ls Tryz.underlying38 o3
  refine ⟨g, s0, a1, n1, c1, m1, a2, n2, c2, a3, n3, c3, rfl, hg, by simpa [Md.val] using hc _ _ h0, by simpa [Md.val] using hc _ _ h1, by simpa [Md.val] using hc _ _ h2, by simpa [Md.val] using hc _ _ h3, nm_str (nm_at hn h0), o1, nm_at hn h1, ?_, ?_, ?_⟩
  · have : ms[i * 4]? = some (.str s0) := h0
    simp [strAt, this]
  · simp [lsN, h1]
  · simp [lsM, h1]

theorem own_value {w : World} {lo : Nat} {A : TypeId → Prop} {a : Option Addr} {n c : Nat} {ms : List Md} (h : Own Tryz.prog w lo A 41 (.ls a n c ms)) (hn : Nm (.ls a n c ms)) (i : Nat) (hi : i < n) :
    ∃ g s0 x1 a2 n2 c2 a3 n3 c3, a = some ⟨g, 0, none⟩ ∧ g < w.heap.size ∧ w.cell? ⟨g, i * 4, none⟩ = some (.string s0) ∧ w.cell? ⟨g, i * 4 + 1, none⟩ = some (.int .i64 x1) ∧ w.cell? ⟨g, i * 4 + 2, none⟩ = some (.slice a2 n2 c2) ∧ w.cell? ⟨g, i * 4 + 3, none⟩ = some (.slice a3 n3 c3) ∧
      s0.size ≤ 2000000 ∧ strAt ms (i * 4) = s0 := by
  obtain ⟨_, hl, hm, hk⟩ := h.at Tryz.underlying41 (by rw [flds_val]; decide)
  rw [flds_val] at hl hk
  obtain ⟨g, rfl, hg, _, hc⟩ := hm (by omega)
  have hq : ∀ j, j < 4 → ∃ m, ms[i * 4 + j]? = some m := fun j hj => ⟨_, List.getElem?_eq_getElem (by simp at hl; omega)⟩
  have hmod : ∀ j, j < 4 → (i * 4 + j) % 4 = j := fun j hj => by omega
  obtain ⟨q0, h0⟩ := hq 0 (by omega)
  obtain ⟨q1, h1⟩ := hq 1 (by omega)
  obtain ⟨q2, h2⟩ := hq 2 (by omega)
  obtain ⟨q3, h3⟩ := hq 3 (by omega)
  have o0 := hk _ _ 9 h0 (by rw [show ([9, 2, 38, 38] : List TypeId).length = 4 from rfl, hmod 0 (by omega)]; rfl)
  have o1 := hk _ _ 2 h1 (by rw [show ([9, 2, 38, 38] : List TypeId).length = 4 from rfl, hmod 1 (by omega)]; rfl)
  have o2 := hk _ _ 38 h2 (by rw [show ([9, 2, 38, 38] : List TypeId).length = 4 from rfl, hmod 2 (by omega)]; rfl)
  have o3 := hk _ _ 38 h3 (by rw [show ([9, 2, 38, 38] : List TypeId).length = 4 from rfl, hmod 3 (by omega)]; rfl)
  obtain ⟨s0, rfl⟩ := own_str Tryz.underlying9 o0
  obtain ⟨x1, rfl⟩ := own_num Tryz.underlying2 o1
  obtain ⟨a2, n2, c2, m2, rfl⟩ := own_ls Tryz.underlying38 o2
  obtain ⟨a3, n3, c3, m3, rfl⟩ := own_ls Tryz.underlying38 o3
  refine ⟨g, s0, x1, a2, n2, c2, a3, n3, c3, rfl, hg, by simpa [Md.val] using hc _ _ h0, by simpa [Md.val] using hc _ _ h1, by simpa [Md.val] using hc _ _ h2, by simpa [Md.val] using hc _ _ h3, nm_str (nm_at hn h0), ?_⟩
  have : ms[i * 4]? = some (.str s0) := h0
  simp [strAt, this]

def okd : Nat → Nat → List Md → Bool
  | 0, n, _ => n == 0
  | f + 1, n, ms => (List.range n).all fun i => okd f (lsN ms (i * 11 + 2)) (lsM ms (i * 11 + 2))

def dwnV (bd bq : Nat) : Value := .func (.func 142) #[] #[.pointer (some ⟨bd, 0, none⟩), .pointer (some ⟨bq, 0, none⟩)]

def DownC (w0 : World) (f : Nat) : Prop :=
  ∀ (a : Option Addr) (n c : Nat) (ms : List Md) (w : World) (x : Int) (bd bq : Nat), Ok Tryz.prog w0 34 (.ls a n c ms) → Below w0.heap.size w0 w → w0.heap.size ≤ bd → bd ≠ bq → Ob w bd #[.int .i64 x] 3 → Ob w bq #[dwnV bd bq] 200 → 0 ≤ x → x ≤ 65 →
    Calls Tryz.prog 142 #[.slice a n c, .int .i64 (65 - (f : Int)), .pointer (some ⟨bd, 0, none⟩), .pointer (some ⟨bq, 0, none⟩)] w fun e w' => e = .returned (.bool (okd f n ms)) ∧ w.grownBy w' (some bd) ∧ ∃ x', Ob w' bd #[.int .i64 x'] 3 ∧ 0 ≤ x' ∧ x' ≤ 65 ∧ (okd f n ms = true → x ≤ 64 → x' ≤ 64)

theorem msg_nest {w : World} {a : Option Addr} {n c : Nat} {ms : List Md} (h : Ok Tryz.prog w 34 (.ls a n c ms)) (i : Nat) (hi : i < n) {a2 : Option Addr} {n2 c2 : Nat} {b off : Nat} (ha : a = some ⟨b, off, none⟩) (hc : w.cell? ⟨b, off + i * 11 + 2, none⟩ = some (.slice a2 n2 c2)) :
    lsN ms (i * 11 + 2) = n2 ∧ Ok Tryz.prog w 34 (.ls a2 n2 c2 (lsM ms (i * 11 + 2))) := by
  cases h with
  | ls hT hnc hm hnil hlen hmem hk =>
    rename_i E
    have hE : E = 40 := by
      have := Tryz.underlying34
      rw [this] at hT
      cases hT
      rfl
    subst hE
    rw [flds_msg] at hlen hk
    obtain ⟨b', off', h1, hb, hcc⟩ := hmem (by omega)
    rw [ha] at h1
    cases h1
    obtain ⟨q, hq⟩ : ∃ m, ms[i * 11 + 2]? = some m := ⟨_, List.getElem?_eq_getElem (by simp at hlen; omega)⟩
    have ok := hk _ _ 34 hq (by simp only [List.length_cons, List.length_nil]; rw [show (i * 11 + 2) % (0 + 1 + 1 + 1 + 1 + 1 + 1 + 1 + 1 + 1 + 1 + 1) = 2 by omega]; rfl)
    have cl := hcc _ _ hq
    obtain ⟨a3, n3, c3, m3, rfl, _⟩ := ok_ls Tryz.underlying34 ok
    rw [show off + (i * 11 + 2) = off + i * 11 + 2 by omega, hc] at cl
    simp [Md.val] at cl
    obtain ⟨rfl, rfl, rfl⟩ := cl
    exact ⟨by simp [lsN, hq], by simpa [lsM, hq] using ok⟩

set_option maxRecDepth 100000 in
set_option maxHeartbeats 4000000 in
theorem pdcl {w0 : World} {f : Nat} (IH : Hid (DownC w0 f)) (hf : f ≤ 63) (nm : ByteArray) (a1 : Option Addr) (n1 c1 : Nat) (a2 : Option Addr) (n2 c2 : Nat) (m2 : List Md) (v3 v4 v5 v6 v7 v8 v9 v10 : Value) (w : World) (x : Int) (bd bq bx : Nat) (ho : Hid (Ok Tryz.prog w0 34 (.ls a2 n2 c2 m2))) (hb : Hid (Below w0.heap.size w0 w)) (hbd : Hid (w0.heap.size ≤ bd)) (hne : Hid (bd ≠ bq)) (od : Hid (Ob w bd #[.int .i64 x] 3)) (oq : Hid (Ob w bq #[dwnV bd bq] 200)) (ox : Hid (Ob w bx #[.int .i64 (65 - ((f + 1 : Nat) : Int))] 3)) (hx0 : Hid (0 ≤ x ∧ x ≤ 65))
    (hv : Hid (∃ s3 s4 s5 s6 s7 s8 s9 s10 : Option Addr × Nat × Nat, v3 = .slice s3.1 s3.2.1 s3.2.2 ∧ v4 = .slice s4.1 s4.2.1 s4.2.2 ∧ v5 = .slice s5.1 s5.2.1 s5.2.2 ∧ v6 = .slice s6.1 s6.2.1 s6.2.2 ∧ v7 = .slice s7.1 s7.2.1 s7.2.2 ∧ v8 = .slice s8.1 s8.2.1 s8.2.2 ∧ v9 = .slice s9.1 s9.2.1 s9.2.2 ∧ v10 = .slice s10.1 s10.2.1 s10.2.2)) :
    Calls Tryz.prog 144 #[.agg #[.string nm, .slice a1 n1 c1, .slice a2 n2 c2, v3, v4, v5, v6, v7, v8, v9, v10], .pointer (some ⟨bq, 0, none⟩), .pointer (some ⟨bx, 0, none⟩)] w fun e w' => e = .returned (.bool (!okd f n2 m2)) ∧ w.grownBy w' (some bd) ∧ ∃ x', Ob w' bd #[.int .i64 x'] 3 ∧ 0 ≤ x' ∧ x' ≤ 65 ∧ (okd f n2 m2 = true → x ≤ 64 → x' ≤ 64) := by
  obtain ⟨⟨p3, l3, k3⟩, ⟨p4, l4, k4⟩, ⟨p5, l5, k5⟩, ⟨p6, l6, k6⟩, ⟨p7, l7, k7⟩, ⟨p8, l8, k8⟩, ⟨p9, l9, k9⟩, ⟨p10, l10, k10⟩, rfl, rfl, rfl, rfl, rfl, rfl, rfl, rfl⟩ := hv.out
  simp only
  obtain ⟨W, hW⟩ : ∃ W, w.alloc (.cells #[.string nm, .slice a1 n1 c1, .slice a2 n2 c2, .slice p3 l3 k3, .slice p4 l4 k4, .slice p5 l5 k5, .slice p6 l6 k6, .slice p7 l7 k7, .slice p8 l8 k8, .slice p9 l9 k9, .slice p10 l10 k10] 40) = W := ⟨_, rfl⟩
  have hbW : Below w.heap.size w W := by rw [← hW]; exact (Below.refl _ _).alloc (Nat.le_refl _) _
  have Q : Hid _ := IH.out a2 n2 c2 m2 W x bd bq ho.out (hb.out.trans (hbW.mono hb.out.size)) hbd.out hne.out (od.out.below hbW od.out.lt) (oq.out.below hbW oq.out.lt) hx0.out.1 hx0.out.2
  have q0 : W.cell? ⟨bq, 0, none⟩ = some (dwnV bd bq) := (oq.out.below hbW oq.out.lt).cell 0 rfl
  have ql := (oq.out.below hbW oq.out.lt).lt
  have x0 : W.cell? ⟨bx, 0, none⟩ = some (.int .i64 (65 - ((f + 1 : Nat) : Int))) := (ox.out.below hbW ox.out.lt).cell 0 rfl
  have xl := (ox.out.below hbW ox.out.lt).lt
  have om : Ob W w.heap.size #[.string nm, .slice a1 n1 c1, .slice a2 n2 c2, .slice p3 l3 k3, .slice p4 l4 k4, .slice p5 l5 k5, .slice p6 l6 k6, .slice p7 l7 k7, .slice p8 l8 k8, .slice p9 l9 k9, .slice p10 l10 k10] 40 := by rw [← hW]; exact Ob.new _ _ _
  have m2' : W.cell? ⟨w.heap.size, 2, none⟩ = some (.slice a2 n2 c2) := om.cell 2 rfl
  have ml := om.lt
  have hdd : (65 - ((f + 1 : Nat) : Int)) + 1 = 65 - (f : Int) := by omega
  have HW : Hid _ := hW
  have HBW : Hid _ := hbW
  clear hW hbW om od oq ox IH
  unfold dwnV at q0
  obtain ⟨d, hd⟩ : ∃ d : Int, 65 - ((f + 1 : Nat) : Int) = d := ⟨_, rfl⟩
  rw [hd] at x0 hdd
  have hd2 : 0 ≤ d ∧ d ≤ 64 := by omega
  rw [← hdd] at Q
  clear hdd hd
  go_enter Tryz.func144, Tryz.ntmps144
  go_upto_region 1 with fail
  rw [HW.out]
  go_wp2_with fail
  refine Calls.mono Q.out ?_
  rintro e w2 ⟨rfl, hg2, h2⟩
  go_wp2
  go_ret
  exact ⟨rfl, grown_transV (grown_ofV HBW.out) hg2, h2⟩

theorem below_grown {B bd : Nat} {w0 w w' : World} (hb : Below B w0 w) (hB : B ≤ w.heap.size) (hg : w.grownBy w' (some bd)) (hbd : B ≤ bd) : Below B w0 w' :=
  hb.trans ⟨hg.os, hg.tape, hg.output, hg.size, fun k hk => hg.block k (by omega) (fun e => by cases e; omega)⟩

def okdK (f k : Nat) (ms : List Md) : Bool := (List.range k).all fun i => okd f (lsN ms (i * 11 + 2)) (lsM ms (i * 11 + 2))

theorem okdK_succ (f k : Nat) (ms : List Md) : okdK f (k + 1) ms = (okdK f k ms && okd f (lsN ms (k * 11 + 2)) (lsM ms (k * 11 + 2))) := by
  simp [okdK, List.range_succ, List.all_append]

theorem okdK_bad {f k n : Nat} {ms : List Md} (hk : k < n) (h : okd f (lsN ms (k * 11 + 2)) (lsM ms (k * 11 + 2)) = false) : okd (f + 1) n ms = false := by
  rw [okd, List.all_eq_false]
  exact ⟨k, List.mem_range.2 hk, by simp [h]⟩

set_option maxRecDepth 100000 in
set_option maxHeartbeats 4000000 in
theorem pidxd {w0 : World} {f : Nat} (IH : Hid (DownC w0 f)) (hf : f ≤ 63) (a : Option Addr) (n c : Nat) (ms : List Md) (h : Hid (Ok Tryz.prog w0 34 (.ls a n c ms))) (hn : (n : Int) ≤ 9223372036854775807) (w : World) (x : Int) (bd bq bx : Nat) (hb : Hid (Below w0.heap.size w0 w)) (hbd : Hid (w0.heap.size ≤ bd)) (hne : Hid (bd ≠ bq)) (hnx : Hid (bd ≠ bx)) (od : Hid (Ob w bd #[.int .i64 x] 3)) (oq : Hid (Ob w bq #[dwnV bd bq] 200)) (ox : Hid (Ob w bx #[.int .i64 (65 - ((f + 1 : Nat) : Int))] 3)) (hx0 : Hid (0 ≤ x ∧ x ≤ 65)) :
    Calls Tryz.prog 174 #[.slice a n c, .func (.func 144) #[] #[.pointer (some ⟨bq, 0, none⟩), .pointer (some ⟨bx, 0, none⟩)]] w fun e w' => (∃ z : Int, e = .returned (.int .i64 z) ∧ (-1 ≤ z ∧ z ≤ 9223372036854775807) ∧ (decide (0 ≤ z) = !okd (f + 1) n ms)) ∧ w.grownBy w' (some bd) ∧ ∃ x', Ob w' bd #[.int .i64 x'] 3 ∧ 0 ≤ x' ∧ x' ≤ 65 ∧ (okd (f + 1) n ms = true → x ≤ 64 → x' ≤ 64) := by
  go_enter Tryz.func174, Tryz.ntmps174
  go_wp2
  go_loopw [8] (fun v wr => ∃ (k : Nat) (y : Int), k ≤ n ∧ v = .int .i64 (k : Int) ∧ Hid (okdK f k ms = true) ∧ Hid (w.grownBy wr (some bd)) ∧ Hid (Ob wr bd #[.int .i64 y] 3) ∧ Hid ((0 ≤ y ∧ y ≤ 65) ∧ (x ≤ 64 → y ≤ 64))) (fun v _ => n - (intOf v).toNat)
  case atStart => exact ⟨0, x, Nat.zero_le _, rfl, rfl, grown_ofV (Below.refl _ _), od.out, hx0.out, fun q => q⟩
  case round =>
    obtain ⟨k, y, hk, rfl, HK, HG, OD, HY⟩ := hrel
    by_cases hlk : k < n
    · have HBW : Hid (Below w0.heap.size w0 wr) := below_grown hb.out hb.out.size HG.out hbd.out
      obtain ⟨b, off, s, p1, n1, q1, m1, p2, n2, q2, m2, p3, n3, q3, m3, p4, n4, q4, m4, p5, n5, q5, m5, p6, n6, q6, m6, p7, n7, q7, m7, p8, n8, q8, m8, p9, n9, q9, m9, p10, n10, q10, m10, rfl, hlt, cc0, cc1, cc2, cc3, cc4, cc5, cc6, cc7, cc8, cc9, cc10, o1, l1, o2, l2, o3, l3, o4, l4, o5, l5, o6, l6, o7, l7, o8, l8, o9, l9, o10, l10⟩ := msg_at h.out k hlk
      have d0 := (HBW.out.cell (p := ⟨b, off + k * 11, none⟩) hlt).trans cc0
      have d1 := (HBW.out.cell (p := ⟨b, off + k * 11 + 1, none⟩) hlt).trans cc1
      have d2 := (HBW.out.cell (p := ⟨b, off + k * 11 + 2, none⟩) hlt).trans cc2
      have d3 := (HBW.out.cell (p := ⟨b, off + k * 11 + 3, none⟩) hlt).trans cc3
      have d4 := (HBW.out.cell (p := ⟨b, off + k * 11 + 4, none⟩) hlt).trans cc4
      have d5 := (HBW.out.cell (p := ⟨b, off + k * 11 + 5, none⟩) hlt).trans cc5
      have d6 := (HBW.out.cell (p := ⟨b, off + k * 11 + 6, none⟩) hlt).trans cc6
      have d7 := (HBW.out.cell (p := ⟨b, off + k * 11 + 7, none⟩) hlt).trans cc7
      have d8 := (HBW.out.cell (p := ⟨b, off + k * 11 + 8, none⟩) hlt).trans cc8
      have d9 := (HBW.out.cell (p := ⟨b, off + k * 11 + 9, none⟩) hlt).trans cc9
      have d10 := (HBW.out.cell (p := ⟨b, off + k * 11 + 10, none⟩) hlt).trans cc10
      obtain ⟨e2, ok2⟩ := msg_nest h.out k hlk rfl cc2
      have hwz := HBW.out.size
      have Q : Hid _ := pdcl IH hf s p1 n1 q1 p2 n2 q2 (lsM ms (k * 11 + 2)) (.slice p3 n3 q3) (.slice p4 n4 q4) (.slice p5 n5 q5) (.slice p6 n6 q6) (.slice p7 n7 q7) (.slice p8 n8 q8) (.slice p9 n9 q9) (.slice p10 n10 q10) wr y bd bq bx (show Hid _ from ok2) HBW hbd hne OD (show Hid _ from oq.out.grown HG.out (fun e => hne.out (Option.some.inj e).symm)) (show Hid _ from ox.out.grown HG.out (fun e => hnx.out (Option.some.inj e).symm)) (show Hid _ from HY.out.1) (show Hid _ from ⟨⟨p3, n3, q3⟩, ⟨p4, n4, q4⟩, ⟨p5, n5, q5⟩, ⟨p6, n6, q6⟩, ⟨p7, n7, q7⟩, ⟨p8, n8, q8⟩, ⟨p9, n9, q9⟩, ⟨p10, n10, q10⟩, rfl, rfl, rfl, rfl, rfl, rfl, rfl, rfl⟩)
      have E2 : Hid _ := e2
      clear cc0 cc1 cc2 cc3 cc4 cc5 cc6 cc7 cc8 cc9 cc10 o1 o2 o3 o4 o5 o6 o7 o8 o9 o10 ok2 e2 h
      go_wp2_with fail
      refine Calls.mono Q.out ?_
      rintro e w1 ⟨rfl, hg1, y1, od1, y0, y65, hy⟩
      have HG1 : Hid _ := hg1
      have OD1 : Hid _ := od1
      have HY1 : Hid _ := hy
      clear hg1 od1 hy Q d0 d1 d2 d3 d4 d5 d6 d7 d8 d9 d10
      rcases hq : okd f n2 (lsM ms (k * 11 + 2)) with _ | _
      · have HQ : Hid _ := hq
        clear hq
        go_wp2
        go_ret
        have hbad : okd (f + 1) n ms = false := okdK_bad hlk (by rw [E2.out]; exact HQ.out)
        exact ⟨⟨_, rfl, ⟨by omega, by omega⟩, by rw [hbad]; simp⟩, grown_transV HG.out HG1.out, y1, OD1.out, y0, y65, fun e => by rw [hbad] at e; cases e⟩
      · have HQ : Hid _ := hq
        clear hq
        go_wp2
        go_roundw
        case rel => exact ⟨k + 1, y1, by omega, by go_num, by rw [okdK_succ, HK.out, E2.out, HQ.out]; rfl, grown_transV HG.out HG1.out, OD1.out, ⟨y0, y65⟩, fun q => HY1.out HQ.out (HY.out.2 q)⟩
        case measure => simp [intOf]; omega
    · have hkn : k = n := by omega
      subst hkn
      go_wp2
      go_ret
      have hgood : okd (f + 1) k ms = true := HK.out
      exact ⟨⟨-1, rfl, ⟨by omega, by omega⟩, by rw [hgood]; simp⟩, HG.out, y, OD.out, HY.out.1.1, HY.out.1.2, fun _ => HY.out.2⟩

set_option maxRecDepth 100000 in
set_option maxHeartbeats 4000000 in
theorem pcond {w0 : World} {f : Nat} (IH : Hid (DownC w0 f)) (hf : f ≤ 63) (a : Option Addr) (n c : Nat) (ms : List Md) (h : Hid (Ok Tryz.prog w0 34 (.ls a n c ms))) (hn : (n : Int) ≤ 9223372036854775807) (w : World) (x : Int) (bd bq bx : Nat) (hb : Hid (Below w0.heap.size w0 w)) (hbd : Hid (w0.heap.size ≤ bd)) (hne : Hid (bd ≠ bq)) (hnx : Hid (bd ≠ bx)) (od : Hid (Ob w bd #[.int .i64 x] 3)) (oq : Hid (Ob w bq #[dwnV bd bq] 200)) (ox : Hid (Ob w bx #[.int .i64 (65 - ((f + 1 : Nat) : Int))] 3)) (hx0 : Hid (0 ≤ x ∧ x ≤ 65)) :
    Calls Tryz.prog 143 #[.slice a n c, .func (.func 144) #[] #[.pointer (some ⟨bq, 0, none⟩), .pointer (some ⟨bx, 0, none⟩)]] w fun e w' => e = .returned (.bool (!okd (f + 1) n ms)) ∧ w.grownBy w' (some bd) ∧ ∃ x', Ob w' bd #[.int .i64 x'] 3 ∧ 0 ≤ x' ∧ x' ≤ 65 ∧ (okd (f + 1) n ms = true → x ≤ 64 → x' ≤ 64) := by
  have Q : Hid _ := pidxd IH hf a n c ms h hn w x bd bq bx hb hbd hne hnx od oq ox hx0
  clear IH h hb hbd hne hnx od oq ox
  go_enter Tryz.func143, Tryz.ntmps143
  go_wp2_with fail
  refine Calls.mono Q.out ?_
  rintro e w1 ⟨⟨z, rfl, hz, ez⟩, hr⟩
  have HR : Hid _ := hr
  have EZ : Hid _ := ez
  clear hr ez Q
  go_wp2
  go_ret
  exact ⟨by rw [← EZ.out]; rfl, HR.out⟩

set_option maxRecDepth 10000 in
set_option maxHeartbeats 1000000 in
theorem pdn0 (a : Option Addr) (c : Nat) (d : Int) (p q : Value) (w : World) :
    Calls Tryz.prog 142 #[.slice a 0 c, .int .i64 d, p, q] w fun e w' => e = .returned (.bool true) ∧ Below w.heap.size w w' := by
  have HB : Hid (Below w.heap.size w (w.alloc (.cells #[.int .i64 d] 3))) := (Below.refl _ _).alloc (Nat.le_refl _) _
  go_enter Tryz.func142, Tryz.ntmps142
  go_wp2
  go_ret
  exact ⟨rfl, HB.out⟩

set_option maxRecDepth 100000 in
set_option maxHeartbeats 4000000 in
theorem pdn65 (a : Option Addr) (n c : Nat) (hn : 0 < n) (hm : (n : Int) ≤ 9223372036854775807) (w : World) (x : Int) (bd : Nat) (q : Value) (od : Ob w bd #[.int .i64 x] 3) (hx : 0 ≤ x ∧ x ≤ 65) :
    Calls Tryz.prog 142 #[.slice a n c, .int .i64 65, .pointer (some ⟨bd, 0, none⟩), q] w fun e w' => e = .returned (.bool false) ∧ w.grownBy w' (some bd) ∧ Ob w' bd #[.int .i64 65] 3 := by
  obtain ⟨w3, hw3⟩ : ∃ w3, w3 = (w.setCell ⟨bd, 0, none⟩ (.int .i64 65)).alloc (.cells #[.int .i64 65] 3) := ⟨_, rfl⟩
  have od3 : Ob w3 bd #[.int .i64 65] 3 := by rw [hw3]; have := (od.set 0 (.int .i64 65)).alloc (.cells #[.int .i64 65] 3); simpa using this
  have ox : Ob w3 w.heap.size #[.int .i64 65] 3 := by rw [hw3]; have := Ob.new (w.setCell ⟨bd, 0, none⟩ (.int .i64 65)) #[.int .i64 65] 3; simpa using this
  have hg : w.grownBy w3 (some bd) := by
    rw [hw3]
    have b0 : Below 0 w (w.setCell ⟨bd, 0, none⟩ (.int .i64 65)) := (Below.refl 0 w).setCell (p := ⟨bd, 0, none⟩) (Nat.zero_le _) _
    have g1 : w.grownBy (w.setCell ⟨bd, 0, none⟩ (.int .i64 65)) (some bd) := ⟨b0.os, b0.tape, b0.output, b0.size, fun k hk hne => heap_setCell_other _ _ _ _ (by intro e; apply hne; simp [e])⟩
    exact grown_transV g1 (grown_ofV ((Below.refl _ _).alloc (Nat.le_refl _) _))
  obtain ⟨c1, f1, l1⟩ := ob1 od
  obtain ⟨c2, f2, l2⟩ := ob1 ox
  have OD : Hid _ := od3
  have HW : Hid _ := hw3
  have HG : Hid _ := hg
  have hmx : max x 65 = 65 := by omega
  have hnz : ((n : Int) == 0) = false := by simp; omega
  have hmf : ∀ (fn : Fn) (first cap : Array Value) (w : World), (Instr.makeFunc fn first cap).run Tryz.prog w = .ok (.func fn first cap) w := fun _ _ _ _ => rfl
  clear od od3 ox hw3 hg
  go_enter Tryz.func142, Tryz.ntmps142
  go_upto_region 4 with fail
  rw [← HW.out]
  clear HW c1 f1
  go_wp2_with fail
  go_ret
  exact ⟨rfl, HG.out, OD.out⟩

set_option maxRecDepth 100000 in
set_option maxHeartbeats 4000000 in
theorem pdnS {w0 : World} {f : Nat} (IH : Hid (DownC w0 f)) (hf : f ≤ 63) (a : Option Addr) (n c : Nat) (ms : List Md) (h : Hid (Ok Tryz.prog w0 34 (.ls a n c ms))) (hn : 0 < n) (hm : (n : Int) ≤ 9223372036854775807) (w : World) (x : Int) (bd bq : Nat) (hb : Hid (Below w0.heap.size w0 w)) (hbd : Hid (w0.heap.size ≤ bd)) (hne : Hid (bd ≠ bq)) (od : Ob w bd #[.int .i64 x] 3) (oq : Ob w bq #[dwnV bd bq] 200) (hx : 0 ≤ x ∧ x ≤ 65) (d : Int) (hd : 65 - ((f + 1 : Nat) : Int) = d) :
    Calls Tryz.prog 142 #[.slice a n c, .int .i64 d, .pointer (some ⟨bd, 0, none⟩), .pointer (some ⟨bq, 0, none⟩)] w fun e w' => e = .returned (.bool (okd (f + 1) n ms)) ∧ w.grownBy w' (some bd) ∧ ∃ x', Ob w' bd #[.int .i64 x'] 3 ∧ 0 ≤ x' ∧ x' ≤ 65 ∧ (okd (f + 1) n ms = true → x ≤ 64 → x' ≤ 64) := by
  obtain ⟨y, hy⟩ : ∃ y, max x d = y := ⟨_, rfl⟩
  have hyb : (0 ≤ y ∧ y ≤ 65) ∧ (x ≤ 64 → y ≤ 64) := by omega
  have hd2 : 1 ≤ d ∧ d ≤ 64 := by omega
  obtain ⟨w3, hw3⟩ : ∃ w3, w3 = (w.setCell ⟨bd, 0, none⟩ (.int .i64 y)).alloc (.cells #[.int .i64 d] 3) := ⟨_, rfl⟩
  have od3 : Ob w3 bd #[.int .i64 y] 3 := by rw [hw3]; have := (od.set 0 (.int .i64 y)).alloc (.cells #[.int .i64 d] 3); simpa using this
  have oq3 : Ob w3 bq #[dwnV bd bq] 200 := by rw [hw3]; exact (oq.other (Ne.symm hne.out) _ _).alloc _
  have ox : Ob w3 w.heap.size #[.int .i64 d] 3 := by rw [hw3]; have := Ob.new (w.setCell ⟨bd, 0, none⟩ (.int .i64 y)) #[.int .i64 d] 3; simpa using this
  have hg : w.grownBy w3 (some bd) := by
    rw [hw3]
    have b0 : Below 0 w (w.setCell ⟨bd, 0, none⟩ (.int .i64 y)) := (Below.refl 0 w).setCell (p := ⟨bd, 0, none⟩) (Nat.zero_le _) _
    have g1 : w.grownBy (w.setCell ⟨bd, 0, none⟩ (.int .i64 y)) (some bd) := ⟨b0.os, b0.tape, b0.output, b0.size, fun k hk hne => heap_setCell_other _ _ _ _ (by intro e; apply hne; simp [e])⟩
    exact grown_transV g1 (grown_ofV ((Below.refl _ _).alloc (Nat.le_refl _) _))
  have hlt := od.lt
  have Q : Hid _ := pcond IH hf a n c ms h hm w3 y bd bq w.heap.size (show Hid _ from below_grown hb.out hb.out.size hg hbd.out) hbd hne (show Hid _ from (by omega : bd ≠ w.heap.size)) (show Hid _ from od3) (show Hid _ from oq3) (show Hid _ from hd.symm ▸ ox) (show Hid _ from hyb.1)
  obtain ⟨c1, f1, l1⟩ := ob1 od
  obtain ⟨c2, f2, l2⟩ := ob1 ox
  have HW : Hid _ := hw3
  have HG : Hid _ := hg
  have HY : Hid _ := hyb
  have hnz : ((n : Int) == 0) = false := by simp; omega
  have hmf : ∀ (fn : Fn) (first cap : Array Value) (w : World), (Instr.makeFunc fn first cap).run Tryz.prog w = .ok (.func fn first cap) w := fun _ _ _ _ => rfl
  clear od od3 oq oq3 ox hw3 hg IH h hb hbd hne hd hyb
  go_enter Tryz.func142, Tryz.ntmps142
  go_upto_region 4 with fail
  rw [← HW.out]
  clear HW c1 f1
  go_wp2_with fail
  refine Calls.mono Q.out ?_
  rintro e w4 ⟨rfl, hg4, x4, ox4, h0, h65, h64⟩
  have HG4 : Hid _ := hg4
  have OX4 : Hid _ := ox4
  have H64 : Hid _ := h64
  clear hg4 ox4 h64 Q c2 f2
  go_wp2
  go_ret
  exact ⟨by simp, grown_transV HG.out HG4.out, x4, OX4.out, h0, h65, fun e q => H64.out e (HY.out.2 q)⟩

theorem pdown_all (w0 : World) : ∀ f, f ≤ 64 → DownC w0 f
  | 0, _ => by
    intro a n c ms w x bd bq ho hb hbd hne od oq hx0 hx1
    obtain ⟨_, _, _, _, e, hm⟩ := ok_ls Tryz.underlying34 ho
    cases e
    rcases Nat.eq_zero_or_pos n with rfl | hn
    · refine Calls.mono (pdn0 a c _ _ _ w) ?_
      rintro e w' ⟨rfl, hb'⟩
      exact ⟨rfl, grown_ofV hb', x, od.below hb' od.lt, hx0, hx1, fun _ q => q⟩
    · have e0 : okd 0 n ms = false := by simp [okd]; omega
      refine Calls.mono (pdn65 a n c hn hm w x bd _ od ⟨hx0, hx1⟩) ?_
      rintro e w' ⟨rfl, hg, o⟩
      exact ⟨by rw [e0], hg, 65, o, by omega, by omega, fun e => by rw [e0] at e; cases e⟩
  | f + 1, hf => by
    intro a n c ms w x bd bq ho hb hbd hne od oq hx0 hx1
    obtain ⟨_, _, _, _, e, hm⟩ := ok_ls Tryz.underlying34 ho
    cases e
    rcases Nat.eq_zero_or_pos n with rfl | hn
    · refine Calls.mono (pdn0 a c _ _ _ w) ?_
      rintro e w' ⟨rfl, hb'⟩
      exact ⟨rfl, grown_ofV hb', x, od.below hb' od.lt, hx0, hx1, fun _ q => q⟩
    · exact pdnS (show Hid _ from pdown_all w0 f (by omega)) (by omega) a n c ms ho hn hm w x bd bq hb hbd hne od oq ⟨hx0, hx1⟩ _ rfl

end Go.Proofs.YtafmoceinamcdaaGreat
