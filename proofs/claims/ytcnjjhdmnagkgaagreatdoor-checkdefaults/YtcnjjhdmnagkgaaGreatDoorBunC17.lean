/- Put together by a program out of these texts of mine: DIn, DOwn, DCl, DEa, DEp, DEr. -/
import Derived.Deep.Slices
import Derived.ProofKit
import Derived.Maps.AppendAt
import Derived.WalkLawsBesides
import Derived.Deep.DeepCutAuto
import Derived.Test.YtcnjjhdmnagkgaaGreatDoorBunC1
import Derived.Test.YtcnjjhdmnagkgaaGreatDoorBunC5
import Derived.Test.YtcnjjhdmnagkgaaGreatDoorBunC10

namespace Go.Proofs.YtcnjjhdmnagkgaaGreatDoor
open Go.ChangeShapes Go.WideShapes Go.ChangeAt Go.RowKit
set_option linter.unusedVariables false
set_option linter.unusedSimpArgs false

inductive Md where
  | str (s : ByteArray)
  | num (k : IntKind) (n : Int)
  | tru (b : Bool)
  | ls (a : Option Addr) (n c : Nat) (ms : List Md)

def Md.val : Md → Value
  | .str s => .string s
  | .num k n => .int k n
  | .tru b => .bool b
  | .ls a n c _ => .slice a n c

def flds (P : Program) (E : TypeId) : List TypeId := match P.underlying E with | some (.struct fs) => fs.toList.map (·.type) | _ => [E]

inductive Ok (P : Program) (w : World) : TypeId → Md → Prop
  | str {T : TypeId} {s : ByteArray} (hT : P.underlying T = some .string) (hs : s.size ≤ maxLen) : Ok P w T (.str s)
  | num {T : TypeId} {k : IntKind} {n : Int} (hT : P.underlying T = some (.int k)) (hw : (Lit.int k n).wf = true) : Ok P w T (.num k n)
  | tru {T : TypeId} {b : Bool} (hT : P.underlying T = some .bool) : Ok P w T (.tru b)
  | ls {T E : TypeId} {a : Option Addr} {n c : Nat} {ms : List Md} (hT : P.underlying T = some (.slice E)) (hnc : n ≤ c) (hm : c ≤ maxLen) (hnil : a = none → c = 0) (hlen : ms.length = n * (flds P E).length)
      (hmem : 0 < n → ∃ b off, a = some ⟨b, off, none⟩ ∧ b < w.heap.size ∧ ∀ i m, ms[i]? = some m → w.cell? ⟨b, off + i, none⟩ = some m.val)
      (hk : ∀ i m F, ms[i]? = some m → (flds P E)[i % (flds P E).length]? = some F → Ok P w F m) : Ok P w T (.ls a n c ms)

theorem Ok.under {P : Program} {w w' : World} {B : Nat} (hb : Below B w w') (hB : w.heap.size ≤ B) {T : TypeId} {m : Md} (h : Ok P w T m) : Ok P w' T m := by
  induction h with
  | str hT hs => exact .str hT hs
  | num hT hw => exact .num hT hw
  | tru hT => exact .tru hT
  | ls hT hnc hm hnil hlen hmem hk ih =>
    refine .ls hT hnc hm hnil hlen (fun hp => ?_) (fun i m F hi hF => ih i m F hi hF)
    obtain ⟨b, off, h1, h2, h3⟩ := hmem hp
    exact ⟨b, off, h1, Nat.lt_of_lt_of_le h2 hb.size, fun i m hi => (hb.cell (p := ⟨b, off + i, none⟩) (by show b < B; omega)).trans (h3 i m hi)⟩

end Go.Proofs.YtcnjjhdmnagkgaaGreatDoor

namespace Go.Proofs.YtcnjjhdmnagkgaaGreatDoor
open Go.RowKit
set_option linter.unusedVariables false
set_option linter.unusedSimpArgs false

inductive Own (P : Program) (w : World) (lo : Nat) (A : TypeId → Prop) : TypeId → Md → Prop
  | str {T : TypeId} {s : ByteArray} (hT : P.underlying T = some .string) : Own P w lo A T (.str s)
  | num {T : TypeId} {k : IntKind} {n : Int} (hT : P.underlying T = some (.int k)) : Own P w lo A T (.num k n)
  | tru {T : TypeId} {b : Bool} (hT : P.underlying T = some .bool) : Own P w lo A T (.tru b)
  | ls {T E : TypeId} {a : Option Addr} {n c : Nat} {ms : List Md} (hT : P.underlying T = some (.slice E)) (hA : A E) (ho : w.ownsRow lo E (flds P E).length (.slice a n c) n (ms.map Md.val))
      (hk : ∀ i m F, ms[i]? = some m → (flds P E)[i % (flds P E).length]? = some F → Own P w lo A F m) : Own P w lo A T (.ls a n c ms)

theorem Own.under {P : Program} {w w' : World} {lo : Nat} {A : TypeId → Prop} (hb : Below w.heap.size w w') {T : TypeId} {m : Md} (h : Own P w lo A T m) : Own P w' lo A T m := by
  induction h with
  | str hT => exact .str hT
  | num hT => exact .num hT
  | tru hT => exact .tru hT
  | ls hT hA ho hk ih => exact .ls hT hA (own_below ho hb) (fun i m F hi hF => ih i m F hi hF)

theorem Own.from {P : Program} {w : World} {lo lo' : Nat} {A : TypeId → Prop} (hl : lo' ≤ lo) {T : TypeId} {m : Md} (h : Own P w lo A T m) : Own P w lo' A T m := by
  induction h with
  | str hT => exact .str hT
  | num hT => exact .num hT
  | tru hT => exact .tru hT
  | ls hT hA ho hk ih => exact .ls hT hA (own_base ho hl) (fun i m F hi hF => ih i m F hi hF)

inductive Alk : Md → Md → Prop
  | str {s : ByteArray} : Alk (.str s) (.str s)
  | num {k : IntKind} {n : Int} : Alk (.num k n) (.num k n)
  | tru {b : Bool} : Alk (.tru b) (.tru b)
  | ls {a a' : Option Addr} {n c c' : Nat} {ms ms' : List Md} (hl : ms.length = ms'.length) (h : ∀ (i : Nat) (m m' : Md), ms[i]? = some m → ms'[i]? = some m' → Alk m m') : Alk (.ls a n c ms) (.ls a' n c' ms')

inductive Sz (P : Program) : TypeId → Md → Prop
  | str {T : TypeId} {s : ByteArray} (h : s.size ≤ 140737488355328) : Sz P T (.str s)
  | num {T : TypeId} {k : IntKind} {n : Int} : Sz P T (.num k n)
  | tru {T : TypeId} {b : Bool} : Sz P T (.tru b)
  | ls {T E : TypeId} {a : Option Addr} {n c : Nat} {ms : List Md} (hT : P.underlying T = some (.slice E)) (hb : n * P.bytesOf E ≤ 140737488355328) (hk : ∀ i m F, ms[i]? = some m → (flds P E)[i % (flds P E).length]? = some F → Sz P F m) : Sz P T (.ls a n c ms)

def Cpy (w : World) (lo : Nat) (A : TypeId → Prop) (T : TypeId) (m : Md) (v : Value) : Prop := ∃ m', v = m'.val ∧ Own Tryz.prog w lo A T m' ∧ Alk m m'

theorem Cpy.under {w w' : World} {lo : Nat} {A : TypeId → Prop} {T : TypeId} {m : Md} {v : Value} (h : Cpy w lo A T m v) (hb : Below w.heap.size w w') : Cpy w' lo A T m v := by
  obtain ⟨m', h1, h2, h3⟩ := h
  exact ⟨m', h1, h2.under hb, h3⟩

theorem Cpy.from {w : World} {lo lo' : Nat} {A : TypeId → Prop} {T : TypeId} {m : Md} {v : Value} (h : Cpy w lo A T m v) (hl : lo' ≤ lo) : Cpy w lo' A T m v := by
  obtain ⟨m', h1, h2, h3⟩ := h
  exact ⟨m', h1, h2.from hl, h3⟩

theorem flds_u8 : flds Tryz.prog 5 = [5] := by kernel_rfl

theorem ok_bs {w : World} {a : Option Addr} {n c : Nat} {ms : List Md} (h : Ok Tryz.prog w 32 (.ls a n c ms)) : ∃ zs : List Int, ms = zs.map (Md.num .u8) ∧ Bs w a n c zs := by
  cases h with
  | ls hT hnc hm hnil hlen hmem hk =>
    rename_i E
    have hE : E = 5 := by
      have := Tryz.underlying32
      rw [this] at hT
      cases hT
      rfl
    subst hE
    rw [flds_u8] at hlen hk
    have hz : ∀ m ∈ ms, ∃ z : Int, m = .num .u8 z ∧ 0 ≤ z ∧ z ≤ 255 := by
      intro m hm'
      obtain ⟨i, hi⟩ := List.getElem?_of_mem hm'
      have ok := hk i m 5 hi (by simp [Nat.mod_one])
      cases ok with
      | str hT => rw [Tryz.underlying5] at hT; cases hT
      | tru hT => rw [Tryz.underlying5] at hT; cases hT
      | ls hT => rw [Tryz.underlying5] at hT; cases hT
      | num hT hw =>
        rw [Tryz.underlying5] at hT
        cases hT
        exact ⟨_, rfl, bounds_u8 hw⟩
    obtain ⟨zs, hzs⟩ : ∃ zs : List Int, ms = zs.map (Md.num .u8) := by
      clear hlen hmem hk
      induction ms with
      | nil => exact ⟨[], rfl⟩
      | cons m r ih =>
        obtain ⟨zs, h1⟩ := ih (fun x hx => hz x (List.mem_cons_of_mem _ hx))
        obtain ⟨z, h2, _⟩ := hz m List.mem_cons_self
        exact ⟨z :: zs, by rw [h1, h2]; rfl⟩
    subst hzs
    refine ⟨zs, rfl, by simpa using hlen, by unfold maxLen at hm; omega, getD_bd (fun z hzm => ?_), hnc, hnil, fun hp => ?_⟩
    · obtain ⟨z', h1, h2⟩ := hz (.num .u8 z) (List.mem_map.2 ⟨z, hzm, rfl⟩)
      cases h1
      exact h2
    · obtain ⟨b, off, h1, h2, h3⟩ := hmem hp
      refine ⟨b, off, h1, h2, fun i hi => ?_⟩
      have hil : i < zs.length := by simp at hlen; omega
      have := h3 i (.num .u8 zs[i]) (by rw [List.getElem?_map, List.getElem?_eq_getElem hil]; rfl)
      rw [this]
      simp [Md.val, List.getD, List.getElem?_eq_getElem hil]

set_option maxHeartbeats 400000 in
theorem kclone_any (S : ByteArray) (w : World) (hlen : Hid (S.size ≤ 140737488355328)) :
    Calls Tryz.prog 16 #[.string S] w fun e w' => e = .returned (.string S) ∧ Below w.heap.size w w' := by
  have Q : Hid _ := Sh.stringslite_Clone S w (by have := hlen.out; omega)
  clear hlen
  go_enter Tryz.func16, Tryz.ntmps16
  go_wp2_with fail
  refine Calls.mono Q.out ?_
  rintro e w1 ⟨rfl, hb⟩
  go_wp2
  go_ret
  exact ⟨rfl, hb⟩

set_option maxHeartbeats 1000000 in
theorem kbytes_some (a : Addr) (len cap : Nat) (zs : List Int) (w : World) (hbs : Hid (Bs w (some a) len cap zs)) (HL : Hid (len ≤ 140737488355328)) :
    Calls Tryz.prog 184 #[.slice (some a) len cap] w fun e w' => ∃ a3 c3, e = .returned (.slice a3 len c3) ∧ w'.ownsRow w.heap.size 5 1 (.slice a3 len c3) len (zs.map (Value.int .u8)) ∧ Below w.heap.size w w' := by
  have hrun : ∀ w, (binOp .eql 32 (.slice (some a) len cap) (.slice none 0 0)).run Tryz.prog w = .ok (.bool false) w := fun w => by kernel_rfl
  go_enter Tryz.func184, Tryz.ntmps184
  have HO : Hid ((w.alloc (.cells #[] 5)).ownsRow w.heap.size 5 1 (.slice (some ⟨w.heap.size, 0, none⟩) 0 0) 0 []) := ⟨rfl, .inr ⟨w.heap.size, 0, #[], rfl, Nat.le_refl _, heap_alloc_new _ _, Nat.le_refl _, by decide, rfl, rfl⟩⟩
  have HB : Hid (Bs (w.alloc (.cells #[] 5)) (some a) len cap zs) := hbs.out.below ((Below.refl _ _).alloc (Nat.le_refl _) _) (Nat.le_refl _)
  have HG : Hid (Below w.heap.size w (w.alloc (.cells #[] 5))) := (Below.refl _ _).alloc (Nat.le_refl _) _
  have hl := HL.out
  go_wp2_with (at_builtin; refine wpList_append_bs rfl _ _ rfl w.heap.size _ 0 [] _ len _ zs rfl rfl HO.out HB.out (by omega) (by simp) ?_; intro v3 w3 hown3 hgrow3; rw [Nat.zero_add, List.nil_append] at hown3; obtain ⟨a3, c3, rfl⟩ := own_slice hown3)
  go_ret
  exact ⟨a3, c3, rfl, hown3, HG.out.grown hgrow3 (by simp) (fun k hk => by cases hk; exact Nat.le_refl _)⟩

theorem kbytes_none (w : World) :
    Calls Tryz.prog 184 #[.slice none 0 0] w fun e w' => e = .returned (.slice none 0 0) ∧ w = w' := by
  have hrun : ∀ w, (binOp .eql 32 (.slice none 0 0) (.slice none 0 0)).run Tryz.prog w = .ok (.bool true) w := fun w => by kernel_rfl
  go_enter Tryz.func184, Tryz.ntmps184
  go_wp2
  go_ret
  exact ⟨rfl, rfl⟩

theorem kbytes_any (A : TypeId → Prop) (hA : A 5) (a : Option Addr) (n c : Nat) (ms : List Md) (w : World) (ho : Hid (Ok Tryz.prog w 32 (.ls a n c ms))) (hs : Hid (Sz Tryz.prog 32 (.ls a n c ms))) :
    Calls Tryz.prog 184 #[.slice a n c] w fun e w' => ∃ v, e = .returned v ∧ Cpy w' w.heap.size A 32 (.ls a n c ms) v ∧ Below w.heap.size w w' := by
  obtain ⟨zs, rfl, hb⟩ := ok_bs ho.out
  have hn : n ≤ 140737488355328 := by
    have hs' := hs.out
    cases hs' with
    | ls hT hb' hk =>
      rw [Tryz.underlying32] at hT
      cases hT
      have : Tryz.prog.bytesOf 5 = 1 := by kernel_rfl
      rw [this] at hb'
      omega
  have alk : ∀ a' c', Alk (.ls a n c (zs.map (Md.num .u8))) (.ls a' n c' (zs.map (Md.num .u8))) := fun a' c' => .ls rfl (fun i m m' h1 h2 => by
    rw [h1] at h2
    cases h2
    rw [List.getElem?_map] at h1
    cases hz : zs[i]? with
    | none => rw [hz] at h1; cases h1
    | some z => rw [hz] at h1; cases h1; exact .num)
  cases a with
  | none =>
    have hc : c = 0 := hb.2.2.2.2.1 rfl
    have hn0 : n = 0 := by have := hb.2.2.2.1; omega
    subst hc hn0
    refine (kbytes_none w).mono ?_
    rintro e w' ⟨rfl, rfl⟩
    have hz : zs = [] := List.eq_nil_of_length_eq_zero hb.1
    subst hz
    exact ⟨_, rfl, ⟨.ls none 0 0 [], rfl, .ls Tryz.underlying32 hA (World.ownsRow_nil _ _ _ _) (fun i m F h => by simp at h), alk _ _⟩, Below.refl _ _⟩
  | some a =>
    refine (kbytes_some a n c zs w hb hn).mono ?_
    rintro e w' ⟨a3, c3, rfl, hown, hbl⟩
    refine ⟨_, rfl, ⟨.ls a3 n c3 (zs.map (Md.num .u8)), rfl, .ls Tryz.underlying32 hA ?_ (fun i m F h hF => ?_), alk _ _⟩, hbl⟩
    · rw [flds_u8, List.map_map]
      exact hown
    · rw [flds_u8] at hF
      have hF' : F = 5 := by
        have : i % [(5 : TypeId)].length = 0 := by simp [Nat.mod_one]
        rw [this] at hF
        cases hF
        rfl
      subst hF'
      rw [List.getElem?_map] at h
      cases hz : zs[i]? with
      | none => rw [hz] at h; cases h
      | some z => rw [hz] at h; cases h; exact .num Tryz.underlying5

theorem kunk_any (A : TypeId → Prop) (hA : A 5) (lv : Value) (a : Option Addr) (n c : Nat) (ms : List Md) (w : World) (ho : Hid (Ok Tryz.prog w 32 (.ls a n c ms))) (hs : Hid (Sz Tryz.prog 32 (.ls a n c ms))) :
    Calls Tryz.prog 185 #[.agg #[lv, .bool false], .slice a n c] w fun e w' => ∃ v, e = .returned v ∧ Cpy w' w.heap.size A 32 (.ls a n c ms) v ∧ Below w.heap.size w w' := by
  have HB : Hid (Below w.heap.size w (w.alloc (.cells #[lv, .bool false] 221))) := (Below.refl _ _).alloc (Nat.le_refl _) _
  have Q : Hid _ := kbytes_any A hA a n c ms _ (show Hid _ from ho.out.under HB.out (Nat.le_refl _)) hs
  go_enter Tryz.func185, Tryz.ntmps185
  go_wp2_with fail
  refine Calls.mono Q.out ?_
  rintro e w1 ⟨v, rfl, hc, hb⟩
  go_wp2
  go_ret
  exact ⟨v, rfl, hc.from (by simp), HB.out.trans (hb.mono (by simp))⟩

def CpyL (w : World) (lo : Nat) (A : TypeId → Prop) (Ts : List TypeId) (ms : List Md) (cs : List Value) : Prop :=
  ∃ ms' : List Md, cs = ms'.map Md.val ∧ ms'.length = ms.length ∧ ∀ (i : Nat) (m m' : Md) (F : TypeId), ms[i]? = some m → ms'[i]? = some m' → Ts[i]? = some F → Own Tryz.prog w lo A F m' ∧ Alk m m'

theorem CpyL.nil (w : World) (lo : Nat) (A : TypeId → Prop) : CpyL w lo A [] [] [] := ⟨[], rfl, rfl, fun i m m' F h => by simp at h⟩

theorem CpyL.cons {w : World} {lo : Nat} {A : TypeId → Prop} {T : TypeId} {Ts : List TypeId} {m : Md} {ms : List Md} {v : Value} {cs : List Value} (h : Cpy w lo A T m v) (hs : CpyL w lo A Ts ms cs) : CpyL w lo A (T :: Ts) (m :: ms) (v :: cs) := by
  obtain ⟨m', rfl, h1, h2⟩ := h
  obtain ⟨ms', rfl, hl, hk⟩ := hs
  refine ⟨m' :: ms', rfl, by simp [hl], fun i x x' F hx hx' hF => ?_⟩
  cases i with
  | zero => simp at hx hx' hF; subst hx hx' hF; exact ⟨h1, h2⟩
  | succ i => exact hk i x x' F (by simpa using hx) (by simpa using hx') (by simpa using hF)

theorem CpyL.under {w w' : World} {lo : Nat} {A : TypeId → Prop} {Ts : List TypeId} {ms : List Md} {cs : List Value} (h : CpyL w lo A Ts ms cs) (hb : Below w.heap.size w w') : CpyL w' lo A Ts ms cs := by
  obtain ⟨ms', h1, h2, h3⟩ := h
  exact ⟨ms', h1, h2, fun i m m' F a b c => ⟨(h3 i m m' F a b c).1.under hb, (h3 i m m' F a b c).2⟩⟩

theorem Cpy.num {w : World} {lo : Nat} {A : TypeId → Prop} {T : TypeId} {k : IntKind} (n : Int) (hT : Tryz.prog.underlying T = some (.int k)) : Cpy w lo A T (.num k n) (.int k n) := ⟨.num k n, rfl, .num hT, .num⟩

theorem Cpy.tru {w : World} {lo : Nat} {A : TypeId → Prop} {T : TypeId} (b : Bool) (hT : Tryz.prog.underlying T = some .bool) : Cpy w lo A T (.tru b) (.bool b) := ⟨.tru b, rfl, .tru hT, .tru⟩

def Src (w : World) (T : TypeId) (m : Md) : Prop := Ok Tryz.prog w T m ∧ Sz Tryz.prog T m

theorem Src.under {w w' : World} {T : TypeId} {m : Md} (h : Src w T m) (hb : Below w.heap.size w w') : Src w' T m := ⟨h.1.under hb (Nat.le_refl _), h.2⟩

theorem cpy_ls {w : World} {lo : Nat} {A : TypeId → Prop} {T : TypeId} {a : Option Addr} {n c : Nat} {ms : List Md} {v : Value} (h : Cpy w lo A T (.ls a n c ms) v) : ∃ a' c', v = .slice a' n c' := by
  obtain ⟨m', rfl, _, h2⟩ := h
  cases h2 with
  | ls hl h => exact ⟨_, _, rfl⟩

theorem Own.set {P : Program} {w : World} {lo : Nat} {A : TypeId → Prop} {T : TypeId} {m : Md} (h : Own P w lo A T m) {b : Nat} (hb : b < lo) (j : Nat) (v : Value) : Own P (w.setCell ⟨b, j, none⟩ v) lo A T m := by
  induction h with
  | str hT => exact .str hT
  | num hT => exact .num hT
  | tru hT => exact .tru hT
  | ls hT hA ho hk ih => exact .ls hT hA (ownsRow_setCell_below ho (a := ⟨b, j, none⟩) hb v) (fun i m F hi hF => ih i m F hi hF)

theorem Cpy.set {w : World} {lo : Nat} {A : TypeId → Prop} {T : TypeId} {m : Md} {u : Value} (h : Cpy w lo A T m u) {b : Nat} (hb : b < lo) (j : Nat) (v : Value) : Cpy (w.setCell ⟨b, j, none⟩ v) lo A T m u := by
  obtain ⟨m', h1, h2, h3⟩ := h
  exact ⟨m', h1, h2.set hb j v, h3⟩

theorem Cpy.str {w : World} {lo : Nat} {A : TypeId → Prop} (s : ByteArray) : Cpy w lo A 9 (.str s) (.string s) := ⟨.str s, rfl, .str Tryz.underlying9, .str⟩

theorem Own.mono {P : Program} {w : World} {lo : Nat} {A A' : TypeId → Prop} (hA : ∀ E, A E → A' E) {T : TypeId} {m : Md} (h : Own P w lo A T m) : Own P w lo A' T m := by
  induction h with
  | str hT => exact .str hT
  | num hT => exact .num hT
  | tru hT => exact .tru hT
  | ls hT hAE ho hk ih => exact .ls hT (hA _ hAE) ho (fun i m F hi hF => ih i m F hi hF)

theorem Own.grown {P : Program} {w w' : World} {lo : Nat} {A : TypeId → Prop} {row : Option Nat} {E0 : TypeId} (hg : w.grownBy w' row) (hrow : ∀ g, row = some g → ∃ cs z, w.heap[g]? = some (.cells cs E0 z)) (hA : ∀ E, A E → E ≠ E0) {T : TypeId} {m : Md} (h : Own P w lo A T m) : Own P w' lo A T m := by
  induction h with
  | str hT => exact .str hT
  | num hT => exact .num hT
  | tru hT => exact .tru hT
  | ls hT hAE ho hk ih =>
    rename_i T E a n c ms
    refine .ls hT hAE (ho.kept hg ?_) (fun i m F hi hF => ih i m F hi hF)
    rcases ho.2 with ⟨he, _⟩ | ⟨g, cap, cur, he, _, hh, _⟩
    · exact .inl (by rw [he]; rfl)
    · refine .inr (fun e => ?_)
      rw [he] at e
      obtain ⟨cs, z, h1⟩ := hrow g e.symm
      rw [hh] at h1
      cases h1
      exact hA _ hAE rfl

def Eac (w : World) (lo : Nat) (A : TypeId → Prop) (E : TypeId) (ms : List Md) (k : Nat) (v : Value) : Prop :=
  ∃ ms' : List Md, w.ownsRow lo E (flds Tryz.prog E).length v k (ms'.map Md.val) ∧ ∀ (i : Nat) (m m' : Md) (F : TypeId), ms[i]? = some m → ms'[i]? = some m' → (flds Tryz.prog E)[i % (flds Tryz.prog E).length]? = some F → Own Tryz.prog w lo A F m' ∧ Alk m m'

theorem Eac.nil (w : World) (lo : Nat) (A : TypeId → Prop) (E : TypeId) (ms : List Md) : Eac w lo A E ms 0 (.slice none 0 0) := ⟨[], World.ownsRow_nil _ _ _ _, fun i m m' F _ h => by simp at h⟩

theorem Eac.under {w w' : World} {lo : Nat} {A : TypeId → Prop} {E : TypeId} {ms : List Md} {k : Nat} {v : Value} (h : Eac w lo A E ms k v) (hb : Below w.heap.size w w') : Eac w' lo A E ms k v := by
  obtain ⟨ms', h1, h2⟩ := h
  exact ⟨ms', own_below h1 hb, fun i m m' F a b c => ⟨(h2 i m m' F a b c).1.under hb, (h2 i m m' F a b c).2⟩⟩

theorem Eac.push {w w' : World} {lo : Nat} {A : TypeId → Prop} {E : TypeId} {ms es : List Md} {k : Nat} {v v' : Value} {cs : List Value} {ms' : List Md} (hA : ∀ X, A X → X ≠ E) (h1 : w.ownsRow lo E (flds Tryz.prog E).length v k (ms'.map Md.val)) (h2 : ∀ (i : Nat) (m m' : Md) (F : TypeId), ms[i]? = some m → ms'[i]? = some m' → (flds Tryz.prog E)[i % (flds Tryz.prog E).length]? = some F → Own Tryz.prog w lo A F m' ∧ Alk m m') (hc : CpyL w lo A (flds Tryz.prog E) es cs) (hel : es.length = (flds Tryz.prog E).length)
    (hes : ∀ j, j < (flds Tryz.prog E).length → ms[k * (flds Tryz.prog E).length + j]? = es[j]?)
    (hg : w.grownBy w' v.ownBlock) (ho : w'.ownsRow lo E (flds Tryz.prog E).length v' (k + 1) (ms'.map Md.val ++ cs)) : Eac w' lo A E ms (k + 1) v' := by
  obtain ⟨es', rfl, hl, hk⟩ := hc
  have hrow : ∀ g, v.ownBlock = some g → ∃ cs z, w.heap[g]? = some (.cells cs E z) := by
    intro g e
    rcases h1.2 with ⟨he, _⟩ | ⟨g', cap, cur, he, _, hh, _⟩
    · rw [he] at e; cases e
    · rw [he] at e
      cases e
      exact ⟨_, _, hh⟩
  have hlen : ms'.length = k * (flds Tryz.prog E).length := by simpa using h1.1
  refine ⟨ms' ++ es', by simpa using ho, fun i m m' F hm hm' hF => ?_⟩
  by_cases hi : i < ms'.length
  · rw [List.getElem?_append_left hi] at hm'
    obtain ⟨g1, g2⟩ := h2 i m m' F hm hm' hF
    exact ⟨g1.grown hg hrow hA, g2⟩
  · rw [List.getElem?_append_right (by omega)] at hm'
    have hj : i - ms'.length < (flds Tryz.prog E).length := by
      have := (List.getElem?_eq_some_iff.1 hm').1
      omega
    have he := hes (i - ms'.length) hj
    rw [show k * (flds Tryz.prog E).length + (i - ms'.length) = i by omega, hm] at he
    have hmod : i % (flds Tryz.prog E).length = i - ms'.length := by
      have e1 : i = (i - ms'.length) + k * (flds Tryz.prog E).length := by omega
      rw [e1, Nat.add_mul_mod_self_right, Nat.mod_eq_of_lt (by omega)]
      omega
    rw [hmod] at hF
    obtain ⟨g1, g2⟩ := hk _ m m' F he.symm hm' hF
    exact ⟨g1.grown hg hrow hA, g2⟩

theorem mod_get {fs : List TypeId} (hz : ¬ fs.length = 0) (i : Nat) : ∃ F, fs[i % fs.length]? = some F := ⟨_, List.getElem?_eq_getElem (Nat.mod_lt _ (by omega))⟩

theorem Eac.all {w : World} {lo : Nat} {A A' : TypeId → Prop} {T E : TypeId} {a : Option Addr} {n c : Nat} {ms : List Md} {v : Value} (hT : Tryz.prog.underlying T = some (.slice E)) (hA : ∀ X, A X → A' X) (hE : A' E) (hl : ms.length = n * (flds Tryz.prog E).length) (h : Eac w lo A E ms n v) : Cpy w lo A' T (.ls a n c ms) v := by
  obtain ⟨ms', h1, h2⟩ := h
  have hlen : ms'.length = n * (flds Tryz.prog E).length := by simpa using h1.1
  obtain ⟨a', c', rfl⟩ := own_slice h1
  have hget : ∀ i m', ms'[i]? = some m' → ∃ m, ms[i]? = some m := fun i m' h => ⟨_, List.getElem?_eq_getElem (by have := (List.getElem?_eq_some_iff.1 h).1; omega)⟩
  refine ⟨.ls a' n c' ms', rfl, .ls hT hE h1 (fun i m' F hi hF => ?_), .ls (by omega) (fun i m m' hm hm' => ?_)⟩
  · obtain ⟨m, hm⟩ := hget i m' hi
    exact (h2 i m m' F hm hi hF).1.mono hA
  · by_cases hz : (flds Tryz.prog E).length = 0
    · exfalso
      rw [hz] at hlen
      have := (List.getElem?_eq_some_iff.1 hm').1
      simp at hlen
      rw [hlen] at this
      simp at this
    · obtain ⟨F, hF⟩ := mod_get (fs := flds Tryz.prog E) hz i
      exact (h2 i m m' _ hm hm' hF).2

theorem ok_ls2 {P : Program} {w : World} {T E : TypeId} {m : Md} (hu : P.underlying T = some (.slice E)) (h : Ok P w T m) : ∃ a n c ms, m = .ls a n c ms := by
  cases h with
  | str hT _ => rw [hu] at hT; cases hT
  | num hT _ => rw [hu] at hT; cases hT
  | tru hT => rw [hu] at hT; cases hT
  | ls hT hnc hm => exact ⟨_, _, _, _, rfl⟩

theorem ok_str2 {P : Program} {w : World} {T : TypeId} {m : Md} (hu : P.underlying T = some .string) (h : Ok P w T m) : ∃ s, m = .str s ∧ s.size ≤ maxLen := by
  cases h with
  | str _ hs => exact ⟨_, rfl, hs⟩
  | num hT _ => rw [hu] at hT; cases hT
  | tru hT => rw [hu] at hT; cases hT
  | ls hT => rw [hu] at hT; cases hT

theorem ok_num2 {P : Program} {w : World} {T : TypeId} {k : IntKind} {m : Md} (hu : P.underlying T = some (.int k)) (h : Ok P w T m) : ∃ n, m = .num k n := by
  cases h with
  | str hT _ => rw [hu] at hT; cases hT
  | num hT _ => rw [hu] at hT; cases hT; exact ⟨_, rfl⟩
  | tru hT => rw [hu] at hT; cases hT
  | ls hT => rw [hu] at hT; cases hT

theorem ok_tru2 {P : Program} {w : World} {T : TypeId} {m : Md} (hu : P.underlying T = some .bool) (h : Ok P w T m) : ∃ b, m = .tru b := by
  cases h with
  | str hT _ => rw [hu] at hT; cases hT
  | num hT _ => rw [hu] at hT; cases hT
  | tru hT => exact ⟨_, rfl⟩
  | ls hT => rw [hu] at hT; cases hT

theorem sz_str {P : Program} {T : TypeId} {s : ByteArray} (h : Sz P T (.str s)) : s.size ≤ 140737488355328 := by
  cases h with
  | str h => exact h

theorem hes1 {ms : List Md} {k : Nat} {q : Md} (h : ms[k]? = some q) (T : TypeId) : ∀ j, j < [T].length → ms[k * [T].length + j]? = [q][j]? := by
  intro j hj
  have hj0 : j = 0 := by simpa using hj
  subst hj0
  simpa using h

theorem own_low {w : World} {base : Nat} {e : TypeId} {sz n g : Nat} {v : Value} {xs : List Value} (h : w.ownsRow base e sz v n xs) (hg : v.ownBlock = some g) : base ≤ g := (h.lt g hg).1

theorem CpyL.from {w : World} {lo lo' : Nat} {A : TypeId → Prop} {Ts : List TypeId} {ms : List Md} {cs : List Value} (h : CpyL w lo A Ts ms cs) (hl : lo' ≤ lo) : CpyL w lo' A Ts ms cs := by
  obtain ⟨ms', h1, h2, h3⟩ := h
  exact ⟨ms', h1, h2, fun i m m' F a b c => ⟨(h3 i m m' F a b c).1.from hl, (h3 i m m' F a b c).2⟩⟩

theorem ob4 {w : World} {b : Nat} {T : TypeId} {x0 x1 x2 x3 : Value} (h : Ob w b #[x0, x1, x2, x3] T) :
    (w.cell? ⟨b, 0, none⟩ = some x0 ∧ w.cell? ⟨b, 1, none⟩ = some x1 ∧ w.cell? ⟨b, 2, none⟩ = some x2 ∧ w.cell? ⟨b, 3, none⟩ = some x3) ∧ (w.frozen? ⟨b, 0, none⟩ = false ∧ w.frozen? ⟨b, 1, none⟩ = false ∧ w.frozen? ⟨b, 2, none⟩ = false ∧ w.frozen? ⟨b, 3, none⟩ = false) ∧ b < w.heap.size :=
  ⟨⟨h.cell 0 rfl, h.cell 1 rfl, h.cell 2 rfl, h.cell 3 rfl⟩, ⟨h.frozen 0, h.frozen 1, h.frozen 2, h.frozen 3⟩, h.lt⟩

theorem krange_any (A : TypeId → Prop) (hA : True) (x0 x1 : Int) (w : World) :
    Calls Tryz.prog 188 #[.agg #[.int .i64 x0, .int .i64 x1]] w fun e w' => e = .returned (.agg #[.int .i64 x0, .int .i64 x1]) ∧ CpyL w' w.heap.size A [2, 2] [.num .i64 x0, .num .i64 x1] [.int .i64 x0, .int .i64 x1] ∧ Below w.heap.size w w' := by
  go_enter Tryz.func188, Tryz.ntmps188
  go_wp2
  refine bodyPost_ret (v := .agg #[.int .i64 x0, .int .i64 x1]) (by simp [results, Tryz.results188, go_sem]) rfl ⟨rfl, ?_, ?_⟩
  · exact CpyL.cons (Cpy.num x0 Tryz.underlying2) (CpyL.cons (Cpy.num x1 Tryz.underlying2) (CpyL.nil _ _ _))
  · exact ((Below.refl _ _).alloc (Nat.le_refl _) _).alloc (by simp) _

theorem flds_range : flds Tryz.prog 109 = [2, 2] := by kernel_rfl

theorem range_at {w : World} {a : Option Addr} {n c : Nat} {ms : List Md} (h : Src w 38 (.ls a n c ms)) (i : Nat) (hi : i < n) :
    ∃ b off x0 x1, a = some ⟨b, off, none⟩ ∧ b < w.heap.size ∧ w.cell? ⟨b, off + i * 2, none⟩ = some (.int .i64 x0) ∧ w.cell? ⟨b, off + i * 2 + 1, none⟩ = some (.int .i64 x1) ∧ ms[i * 2 + 0]? = some (.num .i64 x0) ∧ ms[i * 2 + 1]? = some (.num .i64 x1) := by
  obtain ⟨h, hz⟩ := h
  cases h with
  | ls hT hnc hm hnil hlen hmem hk =>
    rename_i E
    have hE : E = 109 := by
      have := Tryz.underlying38
      rw [this] at hT
      cases hT
      rfl
    subst hE
    cases hz with
    | ls hT2 hb2 hk2 =>
    rename_i E
    have hE : E = 109 := by
      have := Tryz.underlying38
      rw [this] at hT2
      cases hT2
      rfl
    subst hE
    rw [flds_range] at hlen hk hk2
    obtain ⟨b, off, rfl, hb, hc⟩ := hmem (by omega)
    have hg : ∀ j, j < 2 → ∃ m, ms[i * 2 + j]? = some m := fun j hj => ⟨_, List.getElem?_eq_getElem (by simp at hlen; omega)⟩
    have hmod : ∀ j, j < 2 → (i * 2 + j) % 2 = j := fun j hj => by omega
    obtain ⟨q0, hq0⟩ := hg 0 (by omega)
    have ok0 := hk _ _ 2 hq0 (by rw [show ([2, 2] : List TypeId).length = 2 from rfl, hmod 0 (by omega)]; rfl)
    have sz0 := hk2 _ _ 2 hq0 (by rw [show ([2, 2] : List TypeId).length = 2 from rfl, hmod 0 (by omega)]; rfl)
    have cl0 := hc _ _ hq0
    obtain ⟨q1, hq1⟩ := hg 1 (by omega)
    have ok1 := hk _ _ 2 hq1 (by rw [show ([2, 2] : List TypeId).length = 2 from rfl, hmod 1 (by omega)]; rfl)
    have sz1 := hk2 _ _ 2 hq1 (by rw [show ([2, 2] : List TypeId).length = 2 from rfl, hmod 1 (by omega)]; rfl)
    have cl1 := hc _ _ hq1
    obtain ⟨x0, rfl⟩ := ok_num2 Tryz.underlying2 ok0
    obtain ⟨x1, rfl⟩ := ok_num2 Tryz.underlying2 ok1
    refine ⟨b, off, x0, x1, rfl, hb, ?_, ?_, hq0, hq1⟩
    · simpa [Md.val, Nat.add_assoc] using cl0
    · simpa [Md.val, Nat.add_assoc] using cl1

theorem Tryz.infrange : (Tryz.prog.info? 109).map (fun i => (i.zero, i.size, i.bytes)) = some (some (.agg #[.int .i64 0, .int .i64 0]), 2, 16) := by kernel_rfl

theorem new_range (w : World) (x0 : Value) (x1 : Value) (t : TypeId) : ∀ (j : Nat) (u : Value), [x0, x1][j]? = some u → (w.alloc (.cells #[x0, x1] t)).cell? (({ block := w.heap.size, off := 0 } : Addr).add j) = some u := by
  intro j u hj
  have hl : j < 2 := (List.getElem?_eq_some_iff.1 hj).1
  match j, hl with
  | 0, _ => simp at hj; subst hj; simp [Addr.add]
  | 1, _ => simp at hj; subst hj; simp [Addr.add]

theorem hes_range {ms : List Md} {k : Nat} {q0 q1 : Md} (h : ms[k * 2 + 0]? = some q0 ∧ ms[k * 2 + 1]? = some q1) : ∀ j, j < [2, 2].length → ms[k * 2 + j]? = [q0, q1][j]? := by
  intro j hj
  have hl : j < 2 := hj
  match j, hl with
  | 0, _ => exact h.1
  | 1, _ => exact h.2

set_option maxRecDepth 100000 in
set_option maxHeartbeats 4000000 in
theorem kranges_any (A : TypeId → Prop) (hA : A 109) (a : Option Addr) (n c : Nat) (ms : List Md) (w : World) (hs : Hid (Src w 38 (.ls a n c ms))) :
    Calls Tryz.prog 187 #[.slice a n c, .func (.func 188) #[] #[]] w fun e w' => ∃ v, e = .returned v ∧ Cpy w' w.heap.size A 38 (.ls a n c ms) v ∧ Below w.heap.size w w' := by
  obtain ⟨i0, hi, hz0, hz1, hz2⟩ := info_parts Tryz.infrange
  obtain ⟨hn, hby, hml⟩ : (n : Int) ≤ 9223372036854775807 ∧ n * 16 ≤ 140737488355328 ∧ ms.length = n * 2 := by
    obtain ⟨ok, sz⟩ := hs.out
    refine ⟨?_, ?_, ?_⟩
    · cases ok with
      | ls hT hnc hm => unfold maxLen at hm; omega
    · cases sz with
      | ls hT hb hk =>
        rw [Tryz.underlying38] at hT
        cases hT
        have : Tryz.prog.bytesOf 109 = 16 := by kernel_rfl
        rw [this] at hb
        exact hb
    · cases ok with
      | ls hT hnc hm hnil hlen hmem hk =>
        rw [Tryz.underlying38] at hT
        cases hT
        rw [flds_range] at hlen
        exact hlen
  have HML : Hid _ := hml
  clear hml
  have HA : Hid _ := hA
  clear hA
  go_enter Tryz.func187, Tryz.ntmps187
  go_wp2
  go_loopw [5, 10] (fun v i wr => ∃ k : Nat, k ≤ n ∧ i = .int .i64 (k : Int) ∧ Hid (Eac wr w.heap.size (fun X => A X ∧ X ≠ 109) 109 ms k v) ∧ Hid (Below w.heap.size w wr)) (fun _ i _ => n - (intOf i).toNat)
  case atStart => exact ⟨0, Nat.zero_le _, rfl, Eac.nil _ _ _ _ _, Below.refl _ _⟩
  case round =>
    obtain ⟨k, hk, rfl, HE, HW⟩ := hrel
    have hwz := HW.out.size
    by_cases hlk : k < n
    · obtain ⟨b, off, x0, x1, rfl, hlt, d0, d1, G0, G1⟩ := range_at (hs.out.under HW.out) k hlk
      have HG : Hid (ms[k * 2 + 0]? = some (.num .i64 x0) ∧ ms[k * 2 + 1]? = some (.num .i64 x1)) := ⟨G0, G1⟩
      clear G0 G1 hs
      have HX : Hid (Below wr.heap.size wr (wr.alloc (.cells #[.int .i64 x0, .int .i64 x1] 109))) := (Below.refl _ _).alloc (Nat.le_refl _) _
      have Q : Hid _ := krange_any (fun X => A X ∧ X ≠ 109) (show _ from (by have hA := HA.out; exact trivial)) x0 x1 (wr.alloc (.cells #[.int .i64 x0, .int .i64 x1] 109))  
      go_wp2_with fail
      refine Calls.mono Q.out ?_
      rintro e w2 ⟨rfl, hcp, hb2⟩
      have HB2 : Hid (Below wr.heap.size wr w2) := HX.out.trans (hb2.mono (by simp))
      have HC2 : Hid (CpyL w2 w.heap.size (fun X => A X ∧ X ≠ 109) [2, 2] [.num .i64 x0, .num .i64 x1] [.int .i64 x0, .int .i64 x1]) := (show CpyL _ _ _ _ _ _ from hcp).from (by simp; omega)
      have HE2 : Hid (Eac w2 w.heap.size (fun X => A X ∧ X ≠ 109) 109 ms k u5) := Eac.under HE.out HB2.out
      clear hcp hb2 Q HX HE
      have hzz := HB2.out.size
      have HE3 : Hid (Eac (w2.alloc (.cells #[.int .i64 x0, .int .i64 x1] 109)) w.heap.size (fun X => A X ∧ X ≠ 109) 109 ms k u5) := Eac.under HE2.out ((Below.refl _ _).alloc (Nat.le_refl _) _)
      have HC3 : Hid (CpyL (w2.alloc (.cells #[.int .i64 x0, .int .i64 x1] 109)) w.heap.size (fun X => A X ∧ X ≠ 109) [2, 2] [.num .i64 x0, .num .i64 x1] [.int .i64 x0, .int .i64 x1]) := CpyL.under HC2.out ((Below.refl _ _).alloc (Nat.le_refl _) _)
      obtain ⟨ms', hown0, hall0⟩ := HE3.out
      have HO : Hid ((w2.alloc (.cells #[.int .i64 x0, .int .i64 x1] 109)).ownsRow w.heap.size 109 2 u5 k (ms'.map Md.val)) := by rw [flds_range] at hown0; exact hown0
      have HO0 : Hid _ := hown0
      have HALL : Hid _ := hall0
      clear hown0 hall0 HE3 HE2 HC2
      go_wp2_with (at_builtin; refine wpList_append_own_at _ rfl _ _ 38 rfl w.heap.size 109 i0 (.agg #[.int .i64 0, .int .i64 0]) 2 16 Tryz.underlying38 hi hz0 hz1 hz2 rfl (by decide) _ k _ rfl HO.out ⟨w2.heap.size, 0, none⟩ 1 1 [.int .i64 x0, .int .i64 x1] rfl rfl (new_range _ _ _ _) (by intro u hu; simp at hu; rcases hu with rfl | rfl <;> rfl) (by unfold maxLen; omega) (by omega) (by simp; omega) ?_; intro v4 w4 hown4 hgrow4 hnil4 hat4; have HP4 : Hid (Eac w4 w.heap.size (fun X => A X ∧ X ≠ 109) 109 ms (k + 1) v4) := Eac.push (fun X h => h.2) HO0.out HALL.out (by rw [flds_range]; exact HC3.out) (by rw [flds_range]; rfl) (by rw [flds_range]; exact hes_range HG.out) hgrow4 (by rw [flds_range]; exact hown4); have HB4 : Hid (Below w.heap.size w w4) := (HW.out.trans ((HB2.out.alloc HB2.out.size _).mono HW.out.size)).grown hgrow4 (by simp; omega) (fun g hg => own_low HO.out hg); obtain ⟨a4, c4, rfl⟩ := own_slice hown4; clear hown4 hgrow4 hnil4 hat4 HO HO0 HALL HC3)
      go_roundw
      case rel => exact ⟨k + 1, by omega, by go_num, HP4.out, HB4.out⟩
      case measure => simp [intOf]; omega
    · have hkn : k = n := by omega
      subst hkn
      have HF : Hid (Cpy wr w.heap.size A 38 (.ls a k c ms) u5) := Eac.all Tryz.underlying38 (fun X h => h.1) HA.out (by rw [flds_range]; exact HML.out) HE.out
      go_wp2
      go_ret
      exact ⟨_, rfl, HF.out, HW.out⟩

theorem flds_ktexts0_any : flds Tryz.prog 9 = [9] := by kernel_rfl

theorem Tryz.infktexts0_any : (Tryz.prog.info? 9).map (fun i => (i.zero, i.size, i.bytes)) = some (some (.string ⟨#[]⟩), 1, 16) := by kernel_rfl

theorem at_ktexts0_any {w : World} {a : Option Addr} {n c : Nat} {ms : List Md} (h : Src w 40 (.ls a n c ms)) (i : Nat) (hi : i < n) :
    ∃ b off s, a = some ⟨b, off, none⟩ ∧ b < w.heap.size ∧ w.cell? ⟨b, off + i, none⟩ = some (.string s) ∧ s.size ≤ 140737488355328 ∧ ms[i]? = some (.str s) := by
  obtain ⟨h, hz⟩ := h
  cases h with
  | ls hT hnc hm hnil hlen hmem hk =>
    rename_i E
    have hE : E = 9 := by
      have := Tryz.underlying40
      rw [this] at hT
      cases hT
      rfl
    subst hE
    cases hz with
    | ls hT2 hb2 hk2 =>
    rename_i E
    have hE : E = 9 := by
      have := Tryz.underlying40
      rw [this] at hT2
      cases hT2
      rfl
    subst hE
    rw [flds_ktexts0_any] at hlen hk hk2
    obtain ⟨b, off, rfl, hb, hc⟩ := hmem (by omega)
    obtain ⟨q, hq⟩ : ∃ m, ms[i]? = some m := ⟨_, List.getElem?_eq_getElem (by simp at hlen; omega)⟩
    have ok := hk _ _ 9 hq (by simp [Nat.mod_one])
    have sz := hk2 _ _ 9 hq (by simp [Nat.mod_one])
    have cl := hc _ _ hq
    obtain ⟨s, rfl, _⟩ := ok_str2 Tryz.underlying9 ok
    exact ⟨b, off, _, rfl, hb, by simpa [Md.val] using cl, sz_str sz, hq⟩

set_option maxRecDepth 100000 in
set_option maxHeartbeats 4000000 in
theorem ktexts0_any (A : TypeId → Prop) (hA : A 9) (a : Option Addr) (n c : Nat) (ms : List Md) (w : World) (hs : Hid (Src w 40 (.ls a n c ms))) :
    Calls Tryz.prog 108 #[.slice a n c, .func (.func 16) #[] #[]] w fun e w' => ∃ v, e = .returned v ∧ Cpy w' w.heap.size A 40 (.ls a n c ms) v ∧ Below w.heap.size w w' := by
  obtain ⟨i0, hi, hz0, hz1, hz2⟩ := info_parts Tryz.infktexts0_any
  obtain ⟨hn, hby, hml⟩ : (n : Int) ≤ 9223372036854775807 ∧ n * 16 ≤ 140737488355328 ∧ ms.length = n * 1 := by
    obtain ⟨ok, sz⟩ := hs.out
    refine ⟨?_, ?_, ?_⟩
    · cases ok with
      | ls hT hnc hm => unfold maxLen at hm; omega
    · cases sz with
      | ls hT hb hk =>
        rw [Tryz.underlying40] at hT
        cases hT
        have : Tryz.prog.bytesOf 9 = 16 := by kernel_rfl
        rw [this] at hb
        exact hb
    · cases ok with
      | ls hT hnc hm hnil hlen hmem hk =>
        rw [Tryz.underlying40] at hT
        cases hT
        rw [flds_ktexts0_any] at hlen
        exact hlen
  have HML : Hid _ := hml
  clear hml
  have HA : Hid _ := hA
  clear hA
  go_enter Tryz.func108, Tryz.ntmps108
  go_wp2
  go_loopw [5, 10] (fun v i wr => ∃ k : Nat, k ≤ n ∧ i = .int .i64 (k : Int) ∧ Hid (Eac wr w.heap.size (fun X => A X ∧ X ≠ 9) 9 ms k v) ∧ Hid (Below w.heap.size w wr)) (fun _ i _ => n - (intOf i).toNat)
  case atStart => exact ⟨0, Nat.zero_le _, rfl, Eac.nil _ _ _ _ _, Below.refl _ _⟩
  case round =>
    obtain ⟨k, hk, rfl, HE, HW⟩ := hrel
    have hwz := HW.out.size
    by_cases hlk : k < n
    · obtain ⟨b, off, s, rfl, hlt, d0, Z0, G0⟩ := at_ktexts0_any (hs.out.under HW.out) k hlk
      have HZ0 : Hid _ := Z0
      have HG : Hid _ := G0
      clear Z0 G0 hs
      go_wp2_with fail
      refine Calls.mono (kclone_any s _ (show Hid _ from HZ0.out)) ?_
      rintro e w2 ⟨rfl, hb2⟩
      have HB2 : Hid (Below wr.heap.size wr w2) := hb2
      have HE2 : Hid (Eac w2 w.heap.size (fun X => A X ∧ X ≠ 9) 9 ms k u5) := Eac.under HE.out HB2.out
      clear hb2 HE
      have hzz := HB2.out.size
      have HE3 : Hid (Eac (w2.alloc (.cells #[.string s] 9)) w.heap.size (fun X => A X ∧ X ≠ 9) 9 ms k u5) := Eac.under HE2.out ((Below.refl _ _).alloc (Nat.le_refl _) _)
      have HC3 : Hid (CpyL (w2.alloc (.cells #[.string s] 9)) w.heap.size (fun X => A X ∧ X ≠ 9) [9] [.str s] [.string s]) := CpyL.cons (Cpy.str s) (CpyL.nil _ _ _)
      obtain ⟨ms', hown0, hall0⟩ := HE3.out
      have HO : Hid ((w2.alloc (.cells #[.string s] 9)).ownsRow w.heap.size 9 1 u5 k (ms'.map Md.val)) := by rw [flds_ktexts0_any] at hown0; exact hown0
      have HO0 : Hid _ := hown0
      have HALL : Hid _ := hall0
      clear hown0 hall0 HE3 HE2
      go_wp2_with (at_builtin; refine wpList_append_own_at _ rfl _ _ 40 rfl w.heap.size 9 i0 (.string ⟨#[]⟩) 1 16 Tryz.underlying40 hi hz0 hz1 hz2 rfl (by decide) _ k _ rfl HO.out ⟨w2.heap.size, 0, none⟩ 1 1 [.string s] rfl rfl (one_new _ _ _) (by intro u hu; simp at hu; subst hu; rfl) (by unfold maxLen; omega) (by omega) (by simp; omega) ?_; intro v4 w4 hown4 hgrow4 hnil4 hat4; have HP4 : Hid (Eac w4 w.heap.size (fun X => A X ∧ X ≠ 9) 9 ms (k + 1) v4) := Eac.push (fun X h => h.2) HO0.out HALL.out (by rw [flds_ktexts0_any]; exact HC3.out) (by rw [flds_ktexts0_any]; rfl) (by rw [flds_ktexts0_any]; exact hes1 HG.out _) hgrow4 (by rw [flds_ktexts0_any]; exact hown4); have HB4 : Hid (Below w.heap.size w w4) := (HW.out.trans ((HB2.out.alloc HB2.out.size _).mono HW.out.size)).grown hgrow4 (by simp; omega) (fun g hg => own_low HO.out hg); obtain ⟨a4, c4, rfl⟩ := own_slice hown4; clear hown4 hgrow4 hnil4 hat4 HO HO0 HALL HC3)
      go_roundw
      case rel => exact ⟨k + 1, by omega, by go_num, HP4.out, HB4.out⟩
      case measure => simp [intOf]; omega
    · have hkn : k = n := by omega
      subst hkn
      have HF : Hid (Cpy wr w.heap.size A 40 (.ls a k c ms) u5) := Eac.all Tryz.underlying40 (fun X h => h.1) HA.out (by rw [flds_ktexts0_any]; exact HML.out) HE.out
      go_wp2
      go_ret
      exact ⟨_, rfl, HF.out, HW.out⟩

theorem ktexts_any (A : TypeId → Prop) (hA : A 9) (a : Option Addr) (n c : Nat) (ms : List Md) (w : World) (hs : Hid (Src w 40 (.ls a n c ms))) :
    Calls Tryz.prog 71 #[.slice a n c] w fun e w' => ∃ v, e = .returned v ∧ Cpy w' w.heap.size A 40 (.ls a n c ms) v ∧ Below w.heap.size w w' := by
  have Q : Hid _ := ktexts0_any A hA a n c ms w hs
  clear hs
  go_enter Tryz.func71, Tryz.ntmps71
  go_wp2_with fail
  refine Calls.mono Q.out ?_
  rintro e w2 ⟨v, rfl, hc, hb⟩
  obtain ⟨a2, c2, rfl⟩ := cpy_ls hc
  go_wp2
  go_ret
  exact ⟨_, rfl, hc, hb⟩

end Go.Proofs.YtcnjjhdmnagkgaaGreatDoor
