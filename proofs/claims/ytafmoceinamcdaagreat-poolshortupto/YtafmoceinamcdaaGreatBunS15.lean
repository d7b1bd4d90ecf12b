/- Put together by a program out of these texts of mine: VRf, VNm, VLy0, VLy1, VLy2. -/
import Derived.Laws.MakeOwn
import Derived.Test.YtafmoceinamcdaaGreatBunS6
import Derived.Test.YtafmoceinamcdaaGreatBunS11
import Derived.Test.YtafmoceinamcdaaGreatBunS14

namespace Go.Proofs.YtafmoceinamcdaaGreat
open Go.RowKit
set_option linter.unusedVariables false
set_option linter.unusedSimpArgs false

abbrev Sl := List (ByteArray × Int × ByteArray)

def slook (L : Sl) : Sy := fun F => match L.find? (fun x => decide (x.1 = F)) with
  | some x => some x.2
  | none => none

def radd (H : ByteArray) (s : Sl × Option ByteArray) (x : ByteArray × Int) : Sl × Option ByteArray :=
  match s.2 with
  | some _ => s
  | none => match slook s.1 x.1 with
    | some (k, _) => if x.2 = 1 ∧ k = 1 then s else (s.1, some x.1)
    | none => (s.1 ++ [(x.1, x.2, H)], none)

theorem radd_stuck (H : ByteArray) : ∀ (l : List (ByteArray × Int)) (L : Sl) (F : ByteArray), l.foldl (radd H) (L, some F) = (L, some F)
  | [], L, F => rfl
  | x :: l, L, F => radd_stuck H l L F

theorem slook_push (L : Sl) (F : ByteArray) (kd : Int) (H : ByteArray) (h : slook L F = none) : slook (L ++ [(F, kd, H)]) = syPut (slook L) F (kd, H) := by
  funext k
  unfold slook syPut at *
  rw [List.find?_append]
  by_cases hk : k = F
  · subst hk
    rw [if_pos rfl]
    cases hf : L.find? (fun x => decide (x.1 = k)) with
    | some x => rw [hf] at h; cases h
    | none => simp
  · rw [if_neg hk]
    cases hf : L.find? (fun x => decide (x.1 = k)) with
    | some x => simp [hf]
    | none =>
      have : ¬ F = k := fun e => hk e.symm
      simp [this, hf]

theorem radd_insl (H : ByteArray) : ∀ (l : List (ByteArray × Int)) (L : Sl), (∀ x ∈ l, x.2 ≠ 1) → match insl H (slook L) l with
    | .ok h' => ∃ L', l.foldl (radd H) (L, none) = (L', none) ∧ slook L' = h'
    | .error F => ∃ L', l.foldl (radd H) (L, none) = (L', some F)
  | [], L, _ => ⟨L, rfl, rfl⟩
  | (F, kd) :: l, L, hl => by
    have hk : kd ≠ 1 := hl _ List.mem_cons_self
    unfold insl
    cases hF : slook L F with
    | none =>
      have h1 : radd H (L, none) (F, kd) = (L ++ [(F, kd, H)], none) := by simp [radd, hF]
      rw [List.foldl_cons, h1, if_pos (by rfl), ← slook_push L F kd H hF]
      exact radd_insl H l _ (fun x hx => hl x (List.mem_cons_of_mem _ hx))
    | some y =>
      obtain ⟨k, H0⟩ := y
      have h1 : radd H (L, none) (F, kd) = (L, some F) := by simp [radd, hF, hk]
      rw [List.foldl_cons, h1, if_neg (by simp)]
      exact ⟨L, radd_stuck H l L F⟩

def pchain : Nat → List Int → List (List Int)
  | 0, _ => []
  | f + 1, s => if s = [] then [] else s :: pchain f (nparent s).1

def PCx (h : Sy) (s : List Int) : Prop := ∀ t, byts t → t ≠ [] → (∃ H, h (strOfNums t) = some (1, H)) → (nparent t).1 = [] ∨ (nparent t).1 = s ∨ ∃ H, h (strOfNums (nparent t).1) = some (1, H)

theorem strn_inj {a b : List Int} (ha : byts a) (hb : byts b) (h : strOfNums a = strOfNums b) : a = b := by
  have h1 := congrArg (fun x : ByteArray => x.data.toList) h
  simp only [strOfNums_data] at h1
  clear h
  induction a generalizing b with
  | nil => cases b with
    | nil => rfl
    | cons y r => simp at h1
  | cons x l ih => cases b with
    | nil => simp at h1
    | cons y r =>
      simp only [List.map_cons, List.cons.injEq] at h1
      rw [u8_inj (ha x (by simp)) (hb y (by simp)) h1.1, ih (fun z hz => ha z (by simp [hz])) (fun z hz => hb z (by simp [hz])) h1.2]

theorem byts_parent {s : List Int} (h : byts s) : byts (nparent s).1 := fun x hx => h x (by rw [nparent_take s] at hx; exact List.mem_of_mem_take hx)

theorem radd_there (H : ByteArray) (L : Sl) : ∀ (f : Nat) (s : List Int), byts s → (s = [] ∨ ∃ H0, slook L (strOfNums s) = some (1, H0)) → (∀ t, byts t → t ≠ [] → (∃ H0, slook L (strOfNums t) = some (1, H0)) → t.length ≤ s.length → (nparent t).1 = [] ∨ ∃ H0, slook L (strOfNums (nparent t).1) = some (1, H0)) → ((pchain f s).map fun t => (strOfNums t, (1 : Int))).foldl (radd H) (L, none) = (L, none)
  | 0, s, _, _, _ => rfl
  | f + 1, s, hb, hs, hc => by
    unfold pchain
    by_cases he : s = []
    · rw [if_pos he]; rfl
    · rw [if_neg he]
      obtain ⟨H0, hl⟩ := hs.resolve_left he
      have h1 : radd H (L, none) (strOfNums s, 1) = (L, none) := by simp [radd, hl]
      rw [List.map_cons, List.foldl_cons, h1]
      have hlt := nparent_ltV s he
      exact radd_there H L f _ (byts_parent hb) (hc s hb he ⟨H0, hl⟩ (Nat.le_refl _)) (fun t ht h2 h3 h4 => hc t ht h2 h3 (by omega))

theorem radd_pk (H : ByteArray) : ∀ (f : Nat) (s : List Int) (L : Sl), byts s → s.length < f → PCx (slook L) s → match pk H f (slook L) s with
    | .ok h' => ∃ L', ((pchain f s).map fun t => (strOfNums t, (1 : Int))).foldl (radd H) (L, none) = (L', none) ∧ slook L' = h' ∧ PCx h' []
    | .error F => ∃ L', ((pchain f s).map fun t => (strOfNums t, (1 : Int))).foldl (radd H) (L, none) = (L', some F)
  | 0, s, L, _, hf, _ => absurd hf (by omega)
  | f + 1, s, L, hb, hf, hc => by
    by_cases he : s = []
    · subst he
      rw [pk_nil]
      exact ⟨L, by simp [pchain], rfl, hc⟩
    · have hlt := nparent_ltV s he
      cases hl : slook L (strOfNums s) with
      | none =>
        rw [pk_none H f _ s he hl, ← slook_push L _ 1 H hl]
        have h1 : radd H (L, none) (strOfNums s, 1) = (L ++ [(strOfNums s, 1, H)], none) := by simp [radd, hl]
        have ih := radd_pk H f (nparent s).1 (L ++ [(strOfNums s, 1, H)]) (byts_parent hb) (by omega) (by
          rw [slook_push L _ 1 H hl]
          intro t ht hne hH
          by_cases hts : t = s
          · subst hts; exact .inr (.inl rfl)
          · have hns : strOfNums t ≠ strOfNums s := fun e => hts (strn_inj ht hb e)
            have h2 : ∃ H0, slook L (strOfNums t) = some (1, H0) := by
              obtain ⟨H0, h⟩ := hH
              exact ⟨H0, by unfold syPut at h; rw [if_neg hns] at h; exact h⟩
            rcases hc t ht hne h2 with h3 | h3 | ⟨H0, h3⟩
            · exact .inl h3
            · exact .inr (.inr ⟨H, by unfold syPut; rw [if_pos (by rw [h3])]⟩)
            · refine .inr (.inr ?_)
              unfold syPut
              by_cases h4 : strOfNums (nparent t).1 = strOfNums s
              · exact ⟨H, by rw [if_pos h4]⟩
              · exact ⟨H0, by rw [if_neg h4]; exact h3⟩)
        have hp : pchain (f + 1) s = s :: pchain f (nparent s).1 := by rw [pchain, if_neg he]
        rw [hp, List.map_cons, List.foldl_cons, h1]
        exact ih
      | some y =>
        obtain ⟨k, H0⟩ := y
        by_cases hk : k = 1
        · subst hk
          rw [pk_some H f _ s he H0 hl]
          have hc' : PCx (slook L) [] := fun t ht hne hH => by
            rcases hc t ht hne hH with h3 | h3 | h3
            · exact .inl h3
            · exact .inr (.inr ⟨H0, by rw [h3]; exact hl⟩)
            · exact .inr (.inr h3)
          refine ⟨L, radd_there H L (f + 1) s hb (.inr ⟨H0, hl⟩) (fun t ht hne hH _ => ?_), rfl, hc'⟩
          rcases hc' t ht hne hH with h3 | h3 | h3
          · exact .inl h3
          · exact .inl h3
          · exact .inr h3
        · rw [pk_bad H f _ s he k H0 hl hk]
          have h1 : radd H (L, none) (strOfNums s, 1) = (L, some (strOfNums s)) := by simp [radd, hl, hk]
          have hp : pchain (f + 1) s = s :: pchain f (nparent s).1 := by rw [pchain, if_neg he]
          rw [hp, List.map_cons, List.foldl_cons, h1]
          exact ⟨L, radd_stuck H _ L _⟩

theorem PCx.insl {H : ByteArray} : ∀ {l : List (ByteArray × Int)} {h h' : Sy}, (∀ x ∈ l, x.2 ≠ 1) → PCx h [] → insl H h l = .ok h' → PCx h' []
  | [], h, h', _, hc, e => by cases e; exact hc
  | (F, kd) :: r, h, h', hl, hc, e => by
    unfold Go.Proofs.YtafmoceinamcdaaGreat.insl at e
    split at e
    · rename_i hF
      refine PCx.insl (fun x hx => hl x (List.mem_cons_of_mem _ hx)) ?_ e
      have hkd : kd ≠ 1 := hl _ List.mem_cons_self
      have key : ∀ k, (∃ H0, syPut h F (kd, H) k = some (1, H0)) ↔ ∃ H0, h k = some (1, H0) := fun k => by
        unfold syPut
        by_cases hk : k = F
        · subst hk
          rw [if_pos rfl]
          have : h k = none := by simpa using hF
          rw [this]
          simp [hkd]
        · rw [if_neg hk]
      intro t ht hne hH
      rcases hc t ht hne ((key _).1 hH) with h3 | h3 | h3
      · exact .inl h3
      · exact .inr (.inl h3)
      · exact .inr (.inr ((key _).2 h3))
    · cases e

theorem at_both {ms ms' : List Md} (hl : ms.length = ms'.length) (i : Nat) : (ms[i]? = none ∧ ms'[i]? = none) ∨ ∃ m m', ms[i]? = some m ∧ ms'[i]? = some m' := by
  by_cases h : i < ms.length
  · exact .inr ⟨_, _, List.getElem?_eq_getElem h, List.getElem?_eq_getElem (by omega)⟩
  · exact .inl ⟨List.getElem?_eq_none (by omega), List.getElem?_eq_none (by omega)⟩

def AlkL (ms ms' : List Md) : Prop := ms.length = ms'.length ∧ ∀ (i : Nat) (m m' : Md), ms[i]? = some m → ms'[i]? = some m' → Alk m m'

theorem AlkL.strAt {ms ms' : List Md} (h : AlkL ms ms') (i : Nat) : strAt ms' i = strAt ms i := by
  unfold Go.Proofs.YtafmoceinamcdaaGreat.strAt
  rcases at_both h.1 i with ⟨h1, h2⟩ | ⟨m, m', h1, h2⟩
  · rw [h1, h2]
  · rw [h1, h2]
    have := h.2 i m m' h1 h2
    cases this <;> rfl

theorem AlkL.lsN {ms ms' : List Md} (h : AlkL ms ms') (i : Nat) : lsN ms' i = lsN ms i := by
  unfold Go.Proofs.YtafmoceinamcdaaGreat.lsN
  rcases at_both h.1 i with ⟨h1, h2⟩ | ⟨m, m', h1, h2⟩
  · rw [h1, h2]
  · rw [h1, h2]
    have := h.2 i m m' h1 h2
    cases this <;> rfl

theorem AlkL.lsM {ms ms' : List Md} (h : AlkL ms ms') (i : Nat) : AlkL (lsM ms i) (lsM ms' i) := by
  unfold Go.Proofs.YtafmoceinamcdaaGreat.lsM
  rcases at_both h.1 i with ⟨h1, h2⟩ | ⟨m, m', h1, h2⟩
  · rw [h1, h2]
    exact ⟨rfl, fun i m m' h => by simp at h⟩
  · rw [h1, h2]
    have := h.2 i m m' h1 h2
    cases this with
    | str => exact ⟨rfl, fun i m m' h => by simp at h⟩
    | num => exact ⟨rfl, fun i m m' h => by simp at h⟩
    | tru => exact ⟨rfl, fun i m m' h => by simp at h⟩
    | ls hl h => exact ⟨hl, h⟩

theorem valL_alk {ms ms' : List Md} (h : AlkL ms ms') (sc : List Int) (kd : Int) (sz n : Nat) : valL sc kd sz ms' n = valL sc kd sz ms n := by
  unfold valL
  exact List.map_congr_left (fun j _ => by rw [h.strAt])

theorem enumL_alk {ms ms' : List Md} (h : AlkL ms ms') (sc : List Int) (n : Nat) : enumL sc ms' n = enumL sc ms n := by
  unfold enumL
  congr 1
  funext i
  rw [h.strAt, h.lsN, valL_alk (h.lsM _)]

theorem servL_alk {ms ms' : List Md} (h : AlkL ms ms') (sc : List Int) (n : Nat) : servL sc ms' n = servL sc ms n := by
  unfold servL
  congr 1
  funext i
  rw [h.strAt, h.lsN, valL_alk (h.lsM _)]

theorem Alk.nm {m m' : Md} (h : Alk m m') : Nm m → Nm m' := by
  induction h with
  | str => exact id
  | num => exact fun _ => .num
  | tru => exact fun _ => .tru
  | ls hl h ih =>
    intro hn
    refine .ls (fun i m' hi => ?_)
    rcases at_both hl i with ⟨_, h2⟩ | ⟨m, m2, h1, h2⟩
    · rw [h2] at hi; cases hi
    · rw [h2] at hi
      cases hi
      exact ih i m m' h1 h2 (nm_at hn h1)

noncomputable def msgL : Nat → List Int → List Md → Nat → List (ByteArray × Int)
  | 0, _, _, _ => []
  | f + 1, sc, ms, n => (List.range n).flatMap fun i =>
    (jn sc (strAt ms (i * 11)), 2) :: (valL (njoin sc (numsOf (strAt ms (i * 11)))) 5 13 (lsM ms (i * 11 + 1)) (lsN ms (i * 11 + 1)) ++
      (valL (njoin sc (numsOf (strAt ms (i * 11)))) 7 3 (lsM ms (i * 11 + 6)) (lsN ms (i * 11 + 6)) ++
        (msgL f (njoin sc (numsOf (strAt ms (i * 11)))) (lsM ms (i * 11 + 2)) (lsN ms (i * 11 + 2)) ++
          (enumL (njoin sc (numsOf (strAt ms (i * 11)))) (lsM ms (i * 11 + 3)) (lsN ms (i * 11 + 3)) ++
            valL (njoin sc (numsOf (strAt ms (i * 11)))) 6 13 (lsM ms (i * 11 + 5)) (lsN ms (i * 11 + 5))))))

noncomputable def oneL (f : Nat) (sc : List Int) (ms : List Md) (i : Nat) : List (ByteArray × Int) :=
    (jn sc (strAt ms (i * 11)), 2) :: (valL (njoin sc (numsOf (strAt ms (i * 11)))) 5 13 (lsM ms (i * 11 + 1)) (lsN ms (i * 11 + 1)) ++
      (valL (njoin sc (numsOf (strAt ms (i * 11)))) 7 3 (lsM ms (i * 11 + 6)) (lsN ms (i * 11 + 6)) ++
        (msgL f (njoin sc (numsOf (strAt ms (i * 11)))) (lsM ms (i * 11 + 2)) (lsN ms (i * 11 + 2)) ++
          (enumL (njoin sc (numsOf (strAt ms (i * 11)))) (lsM ms (i * 11 + 3)) (lsN ms (i * 11 + 3)) ++
            valL (njoin sc (numsOf (strAt ms (i * 11)))) 6 13 (lsM ms (i * 11 + 5)) (lsN ms (i * 11 + 5))))))

theorem msgL_flat (f : Nat) (sc : List Int) (ms : List Md) (n : Nat) : msgL (f + 1) sc ms n = (List.range n).flatMap (oneL f sc ms) := rfl

theorem msgL_succ (f : Nat) (sc : List Int) (ms : List Md) (n : Nat) : msgL (f + 1) sc ms (n + 1) = msgL (f + 1) sc ms n ++ oneL f sc ms n := by
  rw [msgL_flat, msgL_flat, List.range_succ, List.flatMap_append]
  simp

theorem msgL_split (f : Nat) (sc : List Int) (ms : List Md) {n k : Nat} (h : k < n) : ∃ r, msgL (f + 1) sc ms n = msgL (f + 1) sc ms k ++ (oneL f sc ms k ++ r) := by
  rw [msgL_flat, range_split (show k + 1 ≤ n by omega), List.flatMap_append, ← msgL_flat, msgL_succ, List.append_assoc]
  exact ⟨_, rfl⟩

theorem insl_err_left {H : ByteArray} {h : Sy} {l r : List (ByteArray × Int)} {F : ByteArray} (e : insl H h l = .error F) : insl H h (l ++ r) = .error F := by rw [insl_append, e]

theorem insl_ok_left {H : ByteArray} {h h' : Sy} {l r : List (ByteArray × Int)} (e : insl H h l = .ok h') : insl H h (l ++ r) = insl H h' r := by rw [insl_append, e]

theorem src_at {w : World} {T E : TypeId} (hT : Tryz.prog.underlying T = some (.slice E)) {a : Option Addr} {n c : Nat} {ms : List Md} (h : Src w T (.ls a n c ms)) (hn : Nm (.ls a n c ms)) {i : Nat} (hi : i < n) (hz : 0 < (flds Tryz.prog E).length) :
    ∃ b off, a = some ⟨b, off, none⟩ ∧ b < w.heap.size ∧ ∀ (j : Nat) (F : TypeId), (flds Tryz.prog E)[j]? = some F → ∃ m, ms[i * (flds Tryz.prog E).length + j]? = some m ∧ w.cell? ⟨b, off + i * (flds Tryz.prog E).length + j, none⟩ = some m.val ∧ Src w F m ∧ Nm m := by
  obtain ⟨h1, h2⟩ := h
  cases h1 with
  | ls hT' hnc hm hnil hlen hmem hk =>
    rename_i E'
    rw [hT] at hT'
    cases hT'
    cases h2 with
    | ls hT2 hb hk2 =>
      rename_i E2
      rw [hT] at hT2
      cases hT2
      obtain ⟨b, off, ha, hlt, hc⟩ := hmem (by omega)
      refine ⟨b, off, ha, hlt, fun j F hF => ?_⟩
      have hj : j < (flds Tryz.prog E).length := (List.getElem?_eq_some_iff.1 hF).1
      have hil : i * (flds Tryz.prog E).length + j < ms.length := by
        rw [hlen]
        have : (i + 1) * (flds Tryz.prog E).length ≤ n * (flds Tryz.prog E).length := Nat.mul_le_mul_right _ hi
        rw [Nat.add_mul, Nat.one_mul] at this
        omega
      have hm' : ms[i * (flds Tryz.prog E).length + j]? = some ms[i * (flds Tryz.prog E).length + j] := List.getElem?_eq_getElem hil
      have hmod : (i * (flds Tryz.prog E).length + j) % (flds Tryz.prog E).length = j := by
        rw [Nat.mul_comm, Nat.mul_add_mod]
        exact Nat.mod_eq_of_lt hj
      refine ⟨_, hm', ?_, ⟨hk _ _ F hm' (by rw [hmod]; exact hF), hk2 _ _ F hm' (by rw [hmod]; exact hF)⟩, nm_at hn hm'⟩
      have := hc _ _ hm'
      rw [show off + (i * (flds Tryz.prog E).length + j) = off + i * (flds Tryz.prog E).length + j by omega] at this
      exact this

theorem src_str {w : World} {m : Md} (h : Src w 9 m) (hn : Nm m) : ∃ s, m = .str s ∧ s.size ≤ 2000000 := by
  obtain ⟨s, rfl, _⟩ := ok_str2 Tryz.underlying9 h.1
  exact ⟨s, rfl, nm_str hn⟩

theorem src_ls {w : World} {T E : TypeId} {m : Md} (hu : Tryz.prog.underlying T = some (.slice E)) (h : Src w T m) : ∃ a n c ms, m = .ls a n c ms := ok_ls2 hu h.1

theorem src_n63 {w : World} {T E : TypeId} {a : Option Addr} {n c : Nat} {ms : List Md} (hu : Tryz.prog.underlying T = some (.slice E)) (h : Src w T (.ls a n c ms)) : (n : Int) ≤ 9223372036854775807 := by
  obtain ⟨a', n', c', ms', e, hl⟩ := ok_ls hu h.1
  cases e
  exact hl

theorem Pw.fxT {S : Nat → Prop} {w w' : World} (hf : Fx S w w') {bp bs be : Nat} {vf : Value} {h : Sy} {D : Nat → Prop} {d0 c : Nat} (hp : Pw w bp bs be vf h D d0 c)
    (hS : ∀ b, S b → ∃ cs T, w.heap[b]? = some (.cells cs T (0, 0)) ∧ T ≠ 9 ∧ T ≠ 96 ∧ T ≠ 45) : Pw w' bp bs be vf h D d0 c := by
  have hoth := fun b cs T hb hT => @Pw.other w bp bs be vf h D d0 c hp b cs T hb hT
  have hn := hp.not_row
  obtain ⟨Z, hz⟩ := hp
  have hbp : ¬ S bp := fun e => by
    obtain ⟨cs, T, h1, _, h2, _⟩ := hS bp e
    rw [hz.blk.eq] at h1
    cases h1
    exact h2 rfl
  have hsp : ∀ b, Sp bs be D b → ¬ S b := fun b e e2 => by
    obtain ⟨cs, T, h1, h2, _⟩ := hS b e2
    exact hoth b cs T h1 h2 e
  refine ⟨Z, hz.px.set_be hf hbp (hsp bs (.inl rfl)), hz.ex.fx hf (fun b e => hsp b (.inr (.inr e))) (hsp be (.inr (.inl rfl))), hz.zw.fx hf (fun b cs hb e => ?_)⟩
  obtain ⟨cs', T, h1, _, _, h2⟩ := hS b e
  rw [hb] at h1
  cases h1
  exact h2 rfl

theorem Own.fxT {S : Nat → Prop} {w w' : World} (hf : Fx S w w') {lo : Nat} {A : TypeId → Prop} {T : TypeId} {m : Md} (ho : Own Tryz.prog w lo A T m) (hS : ∀ b cs E, S b → w.heap[b]? = some (.cells cs E (0, 0)) → ¬ A E) : Own Tryz.prog w' lo A T m :=
  ho.fx hf (fun b hb e => by
    obtain ⟨_, cs, E, hE, hc⟩ := ho.typed b hb
    exact hS b cs E e hc hE)

theorem infoMsg : (Tryz.prog.info? 40).map (fun i => (i.zero, i.size, i.bytes)) = some (some (.agg #[.string ⟨#[]⟩, .slice none 0 0, .slice none 0 0, .slice none 0 0, .slice none 0 0, .slice none 0 0, .slice none 0 0, .slice none 0 0, .slice none 0 0, .slice none 0 0, .slice none 0 0]), 11, Tryz.prog.bytesOf 40) := by kernel_rfl

theorem mkN (n : Nat) (hb : n * Tryz.prog.bytesOf 40 ≤ 140737488355328) (h63 : (n : Int) ≤ 9223372036854775807) (W : World) :
    ∃ cs W', (Instr.makeSlice 34 (.int .i64 (n : Int)) (.int .i64 (n : Int))).run Tryz.prog W = .ok (.slice (some ⟨W.heap.size, 0, none⟩) n n) W' ∧ W' = W.alloc (.cells cs 40) ∧ cs.size = n * 11 := by
  obtain ⟨i, hi, z1, z2, z3⟩ : ∃ i, Tryz.prog.info? 40 = some i ∧ i.zero = some (.agg #[.string ⟨#[]⟩, .slice none 0 0, .slice none 0 0, .slice none 0 0, .slice none 0 0, .slice none 0 0, .slice none 0 0, .slice none 0 0, .slice none 0 0, .slice none 0 0, .slice none 0 0]) ∧ i.size = 11 ∧ i.bytes = Tryz.prog.bytesOf 40 := by
    have := infoMsg
    cases hq : Tryz.prog.info? 40 with
    | none => rw [hq] at this; cases this
    | some i =>
      rw [hq] at this
      have h := Option.some.inj this
      simp only [Prod.mk.injEq] at h
      exact ⟨i, rfl, h.1, h.2.1, h.2.2⟩
  have hr := run_make (P := Tryz.prog) W 34 40 i _ Tryz.underlying34 hi z1 .i64 .i64 (n : Int) (n : Int) (by omega) (Int.le_refl _) (by
    rw [z3, ← Int.natCast_mul, Nat.mul_comm]
    omega) h63
  simp only [Int.toNat_natCast] at hr
  exact ⟨_, _, hr, rfl, by rw [size_madeCells, z2]⟩

theorem set11at {w : World} {K : Nat} {cs : Array Value} {T : TypeId} (h : Ob w K cs T) {n k : Nat} (hs : cs.size = n * 11) (hk : k < n) (x0 x1 x2 x3 x4 x5 x6 x7 x8 x9 x10 : Value) :
    ∃ cs', Ob (((((((((((w.setCell ⟨K, k * 11, none⟩ x0).setCell ⟨K, k * 11 + 1, none⟩ x1).setCell ⟨K, k * 11 + 2, none⟩ x2).setCell ⟨K, k * 11 + 3, none⟩ x3).setCell ⟨K, k * 11 + 4, none⟩ x4).setCell ⟨K, k * 11 + 5, none⟩ x5).setCell ⟨K, k * 11 + 6, none⟩ x6).setCell ⟨K, k * 11 + 7, none⟩ x7).setCell ⟨K, k * 11 + 8, none⟩ x8).setCell ⟨K, k * 11 + 9, none⟩ x9).setCell ⟨K, k * 11 + 10, none⟩ x10) K cs' T ∧ cs'.size = n * 11 ∧ cs'[k * 11 + 3]? = some x3 ∧ cs'[k * 11 + 5]? = some x5 := by
  refine ⟨_, ((((((((((h.set _ x0).set _ x1).set _ x2).set _ x3).set _ x4).set _ x5).set _ x6).set _ x7).set _ x8).set _ x9).set _ x10, by simpa using hs, ?_, ?_⟩
  · simp [Array.getElem?_setIfInBounds]
    omega
  · simp [Array.getElem?_setIfInBounds]
    omega

theorem fx1 (w : World) (K j : Nat) (x : Value) : Fx (fun b => b = K) w (w.setCell ⟨K, j, none⟩ x) :=
  ⟨rfl, rfl, rfl, by simp, fun b hb hn => heap_setCell_other _ _ _ _ (by simpa using hn)⟩

theorem Fx.also {S : Nat → Prop} {w w1 w2 : World} (h : Fx S w w1) (k : Fx S w1 w2) : Fx S w w2 := h.trans k (fun _ e => .inl e)

theorem fx11 (w : World) (K : Nat) (k : Nat) (x0 x1 x2 x3 x4 x5 x6 x7 x8 x9 x10 : Value) :
    Fx (fun b => b = K) w (((((((((((w.setCell ⟨K, k * 11, none⟩ x0).setCell ⟨K, k * 11 + 1, none⟩ x1).setCell ⟨K, k * 11 + 2, none⟩ x2).setCell ⟨K, k * 11 + 3, none⟩ x3).setCell ⟨K, k * 11 + 4, none⟩ x4).setCell ⟨K, k * 11 + 5, none⟩ x5).setCell ⟨K, k * 11 + 6, none⟩ x6).setCell ⟨K, k * 11 + 7, none⟩ x7).setCell ⟨K, k * 11 + 8, none⟩ x8).setCell ⟨K, k * 11 + 9, none⟩ x9).setCell ⟨K, k * 11 + 10, none⟩ x10) :=
  ((((((((((fx1 w K (k * 11) x0).also (fx1 _ K (k * 11 + 1) x1)).also (fx1 _ K (k * 11 + 2) x2)).also (fx1 _ K (k * 11 + 3) x3)).also (fx1 _ K (k * 11 + 4) x4)).also (fx1 _ K (k * 11 + 5) x5)).also (fx1 _ K (k * 11 + 6) x6)).also (fx1 _ K (k * 11 + 7) x7)).also (fx1 _ K (k * 11 + 8) x8)).also (fx1 _ K (k * 11 + 9) x9)).also (fx1 _ K (k * 11 + 10) x10)

theorem Ob.cells_in {w : World} {K : Nat} {cs : Array Value} {T : TypeId} (h : Ob w K cs T) {j : Nat} (hj : j < cs.size) : w.cell? ⟨K, j, none⟩ = some cs[j] := h.cell j (Array.getElem?_eq_getElem hj)

structure Lq (W w : World) (bp bs be : Nat) (vf : Value) (h : Sy) (D Dk : Nat → Prop) (d0 c : Nat) : Prop where
  fx : Fx (Sp bs be D) W w
  dg : Dg W D Dk
  pw : Pw w bp bs be vf h Dk d0 c

theorem Lq.below {W w w' : World} {bp bs be : Nat} {vf : Value} {h : Sy} {D Dk : Nat → Prop} {d0 c : Nat} (hq : Lq W w bp bs be vf h D Dk d0 c) (hb : Below w.heap.size w w') : Lq W w' bp bs be vf h D Dk d0 c :=
  ⟨hq.fx.trans (Fx.of_below (S := Sp bs be D) hb) (fun _ e => .inl e), hq.dg, hq.pw.below hb (Nat.le_refl _)⟩

theorem Lq.set {W w w' : World} {bp bs be : Nat} {vf : Value} {h : Sy} {D Dk : Nat → Prop} {d0 c : Nat} (hq : Lq W w bp bs be vf h D Dk d0 c) {K : Nat} (hK : W.heap.size ≤ K) (hf : Fx (fun b => b = K) w w') {cs : Array Value} {T : TypeId} (hb : Ob w K cs T) (h1 : T ≠ 9) (h2 : T ≠ 96) (h3 : T ≠ 45) : Lq W w' bp bs be vf h D Dk d0 c :=
  ⟨hq.fx.trans hf (fun b e => .inr (by rw [e]; exact hK)), hq.dg, hq.pw.fxT hf (fun b e => ⟨cs, T, by rw [e]; exact hb.eq, h1, h2, h3⟩)⟩

theorem Dg.sp {W : World} {bs be : Nat} {D D' : Nat → Prop} (hd : Dg W D D') : ∀ b, Sp bs be D' b → Sp bs be D b ∨ W.heap.size ≤ b := fun b e => by
  rcases e with e | e | e
  · exact .inl (.inl e)
  · exact .inl (.inr (.inl e))
  · exact (hd b e).imp (fun e => .inr (.inr e)) id

theorem Dg.refl (W : World) (D : Nat → Prop) : Dg W D D := fun _ e => .inl e

theorem Dg.trans {W w : World} {D D' D'' : Nat → Prop} (h : Dg W D D') (k : Dg w D' D'') (hs : W.heap.size ≤ w.heap.size) : Dg W D D'' := fun b e => by
  rcases k b e with e | e
  · exact h b e
  · exact .inr (Nat.le_trans hs e)

theorem Lq.step {W w w' : World} {bp bs be : Nat} {vf : Value} {h h' : Sy} {D Dk D' : Nat → Prop} {d0 c c' : Nat} (hq : Lq W w bp bs be vf h D Dk d0 c) (hf : Fx (Sp bs be Dk) w w') (hd : Dg w Dk D') (hp : Pw w' bp bs be vf h' D' d0 c') : Lq W w' bp bs be vf h' D D' d0 c' :=
  ⟨hq.fx.trans hf hq.dg.sp, hq.dg.trans hd hq.fx.size, hp⟩

theorem Lq.put {W w w' : World} {bp bs be : Nat} {vf : Value} {h h' : Sy} {D Dk : Nat → Prop} {d0 c : Nat} {Z : Nat → Nat → Prop} (hq : Lq W w bp bs be vf h D Dk d0 c) (hz : Pz w bp bs be vf h Dk d0 c Z) (hg : w.grownBy w' (some bs)) (hh : ∀ x H, h x = some (6, H) → ∃ H', h' x = some (6, H')) (hx : Px (Rz Z) w' bp bs be vf h') : Lq W w' bp bs be vf h' D Dk d0 c :=
  hq.step (.of_grown hg (.inl rfl)) (Dg.refl _ _) ⟨Z, hz.put hg hh hx⟩

theorem put_keeps {h : Sy} {F : ByteArray} {kd : Int} {H : ByteArray} (hF : h F = none) : ∀ x H0, h x = some (6, H0) → ∃ H', (syPut h F (kd, H)) x = some (6, H') := fun x H0 e => ⟨H0, by
  unfold syPut
  rw [if_neg (fun e2 => by subst e2; rw [hF] at e; cases e)]
  exact e⟩

theorem Pw.more {w : World} {bp bs be : Nat} {vf : Value} {h : Sy} {D : Nat → Prop} {d0 c c' : Nat} (hp : Pw w bp bs be vf h D d0 c) (hc : c ≤ c') : Pw w bp bs be vf h D d0 c' := by
  obtain ⟨Z, hz⟩ := hp
  exact ⟨Z, hz.px, hz.ex.more hc (fun x H e => ⟨H, e⟩), hz.zw⟩

theorem Ex.low0 {w : World} {be : Nat} {D : Nat → Prop} {d0 c : Nat} {h : Sy} (he : Ex w be D d0 c h) : ∀ b, D b → d0 ≤ b := fun b e => (he.low b e).1

theorem Pw.kept {w0 W w : World} {bp bs be : Nat} {vf : Value} {h : Sy} {D : Nat → Prop} {d0 c : Nat} (hp : Pw W bp bs be vf h D d0 c) (hb : Below w0.heap.size w0 W) (h1 : w0.heap.size ≤ bs) (h2 : w0.heap.size ≤ be) (h3 : w0.heap.size ≤ d0) (hf : Fx (Sp bs be D) W w) : Below w0.heap.size w0 w := by
  obtain ⟨Z, hz⟩ := hp
  exact hb.trans (hf.to_below hb.size (fun b e => by
    rcases e with e | e | e
    · omega
    · omega
    · have := hz.ex.low0 b e; omega))

theorem Src.under' {w0 w : World} {T : TypeId} {m : Md} (h : Src w0 T m) (hb : Below w0.heap.size w0 w) : Src w T m := h.under hb

theorem msgL_zero (f : Nat) (sc : List Int) (ms : List Md) : msgL f sc ms 0 = [] := by
  cases f with
  | zero => rfl
  | succ f => rfl

theorem msg_src {w : World} {a : Option Addr} {n c : Nat} {ms : List Md} (h : Src w 34 (.ls a n c ms)) (hn : Nm (.ls a n c ms)) {i : Nat} (hi : i < n) :
    ∃ b off s0 a1 n1 k1 m1 a2 n2 k2 m2 a3 n3 k3 m3 a4 n4 k4 m4 a5 n5 k5 m5 a6 n6 k6 m6 a7 n7 k7 m7 a8 n8 k8 m8 a9 n9 k9 m9 a10 n10 k10 m10, a = some ⟨b, off, none⟩ ∧ b < w.heap.size ∧ w.cell? ⟨b, off + i * 11, none⟩ = some (.string s0) ∧ w.cell? ⟨b, off + i * 11 + 1, none⟩ = some (.slice a1 n1 k1) ∧ w.cell? ⟨b, off + i * 11 + 2, none⟩ = some (.slice a2 n2 k2) ∧ w.cell? ⟨b, off + i * 11 + 3, none⟩ = some (.slice a3 n3 k3) ∧ w.cell? ⟨b, off + i * 11 + 4, none⟩ = some (.slice a4 n4 k4) ∧ w.cell? ⟨b, off + i * 11 + 5, none⟩ = some (.slice a5 n5 k5) ∧ w.cell? ⟨b, off + i * 11 + 6, none⟩ = some (.slice a6 n6 k6) ∧ w.cell? ⟨b, off + i * 11 + 7, none⟩ = some (.slice a7 n7 k7) ∧ w.cell? ⟨b, off + i * 11 + 8, none⟩ = some (.slice a8 n8 k8) ∧ w.cell? ⟨b, off + i * 11 + 9, none⟩ = some (.slice a9 n9 k9) ∧ w.cell? ⟨b, off + i * 11 + 10, none⟩ = some (.slice a10 n10 k10) ∧ Src w 33 (.ls a1 n1 k1 m1) ∧ Src w 34 (.ls a2 n2 k2 m2) ∧ Src w 35 (.ls a3 n3 k3 m3) ∧ Src w 36 (.ls a4 n4 k4 m4) ∧ Src w 33 (.ls a5 n5 k5 m5) ∧ Src w 37 (.ls a6 n6 k6 m6) ∧ Src w 36 (.ls a7 n7 k7 m7) ∧ Src w 30 (.ls a8 n8 k8 m8) ∧ Src w 38 (.ls a9 n9 k9 m9) ∧ Src w 38 (.ls a10 n10 k10 m10) ∧ Nm (.ls a1 n1 k1 m1) ∧ lsN ms (i * 11 + 1) = n1 ∧ lsM ms (i * 11 + 1) = m1 ∧ Nm (.ls a2 n2 k2 m2) ∧ lsN ms (i * 11 + 2) = n2 ∧ lsM ms (i * 11 + 2) = m2 ∧ Nm (.ls a3 n3 k3 m3) ∧ lsN ms (i * 11 + 3) = n3 ∧ lsM ms (i * 11 + 3) = m3 ∧ Nm (.ls a5 n5 k5 m5) ∧ lsN ms (i * 11 + 5) = n5 ∧ lsM ms (i * 11 + 5) = m5 ∧ Nm (.ls a6 n6 k6 m6) ∧ lsN ms (i * 11 + 6) = n6 ∧ lsM ms (i * 11 + 6) = m6 ∧ s0.size ≤ 2000000 ∧ strAt ms (i * 11) = s0 := by
  have hfl := flds_msg
  obtain ⟨b, off, ha, hb, hat⟩ := src_at Tryz.underlying34 h hn hi (by rw [hfl]; decide)
  rw [hfl] at hat
  have hat : ∀ (j : Nat) (F : TypeId), ([9, 33, 34, 35, 36, 33, 37, 36, 30, 38, 38] : List TypeId)[j]? = some F → ∃ m, ms[i * 11 + j]? = some m ∧ w.cell? ⟨b, off + i * 11 + j, none⟩ = some m.val ∧ Src w F m ∧ Nm m := hat
  obtain ⟨q0, e0, c0, r0, t0⟩ := hat 0 9 rfl
  obtain ⟨s0, rfl, z0⟩ := src_str r0 t0
  obtain ⟨q1, e1, c1, r1, t1⟩ := hat 1 33 rfl
  obtain ⟨a1, n1, k1, m1, rfl⟩ := src_ls Tryz.underlying33 r1
  obtain ⟨q2, e2, c2, r2, t2⟩ := hat 2 34 rfl
  obtain ⟨a2, n2, k2, m2, rfl⟩ := src_ls Tryz.underlying34 r2
  obtain ⟨q3, e3, c3, r3, t3⟩ := hat 3 35 rfl
  obtain ⟨a3, n3, k3, m3, rfl⟩ := src_ls Tryz.underlying35 r3
  obtain ⟨q4, e4, c4, r4, t4⟩ := hat 4 36 rfl
  obtain ⟨a4, n4, k4, m4, rfl⟩ := src_ls Tryz.underlying36 r4
  obtain ⟨q5, e5, c5, r5, t5⟩ := hat 5 33 rfl
  obtain ⟨a5, n5, k5, m5, rfl⟩ := src_ls Tryz.underlying33 r5
  obtain ⟨q6, e6, c6, r6, t6⟩ := hat 6 37 rfl
  obtain ⟨a6, n6, k6, m6, rfl⟩ := src_ls Tryz.underlying37 r6
  obtain ⟨q7, e7, c7, r7, t7⟩ := hat 7 36 rfl
  obtain ⟨a7, n7, k7, m7, rfl⟩ := src_ls Tryz.underlying36 r7
  obtain ⟨q8, e8, c8, r8, t8⟩ := hat 8 30 rfl
  obtain ⟨a8, n8, k8, m8, rfl⟩ := src_ls Tryz.underlying30 r8
  obtain ⟨q9, e9, c9, r9, t9⟩ := hat 9 38 rfl
  obtain ⟨a9, n9, k9, m9, rfl⟩ := src_ls Tryz.underlying38 r9
  obtain ⟨q10, e10, c10, r10, t10⟩ := hat 10 38 rfl
  obtain ⟨a10, n10, k10, m10, rfl⟩ := src_ls Tryz.underlying38 r10
  exact ⟨b, off, s0, a1, n1, k1, m1, a2, n2, k2, m2, a3, n3, k3, m3, a4, n4, k4, m4, a5, n5, k5, m5, a6, n6, k6, m6, a7, n7, k7, m7, a8, n8, k8, m8, a9, n9, k9, m9, a10, n10, k10, m10, ha, hb, c0, c1, c2, c3, c4, c5, c6, c7, c8, c9, c10, r1, r2, r3, r4, r5, r6, r7, r8, r9, r10, t1, by simp [lsN, e1], by simp [lsM, e1], t2, by simp [lsN, e2], by simp [lsM, e2], t3, by simp [lsN, e3], by simp [lsM, e3], t5, by simp [lsN, e5], by simp [lsM, e5], t6, by simp [lsN, e6], by simp [lsM, e6], z0, by have h := e0; simp only [Nat.add_zero] at h; simp [strAt, h]⟩

theorem fld_src {w : World} {a : Option Addr} {n c : Nat} {ms : List Md} (h : Src w 33 (.ls a n c ms)) (hn : Nm (.ls a n c ms)) {i : Nat} (hi : i < n) :
    ∃ b off s0 x1 x2 x3 s4 s5 s6 y7 x8 s9 y10 a11 n11 k11 a12 n12 k12, a = some ⟨b, off, none⟩ ∧ b < w.heap.size ∧ w.cell? ⟨b, off + i * 13, none⟩ = some (.string s0) ∧ w.cell? ⟨b, off + i * 13 + 1, none⟩ = some (.int .i64 x1) ∧ w.cell? ⟨b, off + i * 13 + 2, none⟩ = some (.int .i64 x2) ∧ w.cell? ⟨b, off + i * 13 + 3, none⟩ = some (.int .i64 x3) ∧ w.cell? ⟨b, off + i * 13 + 4, none⟩ = some (.string s4) ∧ w.cell? ⟨b, off + i * 13 + 5, none⟩ = some (.string s5) ∧ w.cell? ⟨b, off + i * 13 + 6, none⟩ = some (.string s6) ∧ w.cell? ⟨b, off + i * 13 + 7, none⟩ = some (.bool y7) ∧ w.cell? ⟨b, off + i * 13 + 8, none⟩ = some (.int .i64 x8) ∧ w.cell? ⟨b, off + i * 13 + 9, none⟩ = some (.string s9) ∧ w.cell? ⟨b, off + i * 13 + 10, none⟩ = some (.bool y10) ∧ w.cell? ⟨b, off + i * 13 + 11, none⟩ = some (.slice a11 n11 k11) ∧ w.cell? ⟨b, off + i * 13 + 12, none⟩ = some (.slice a12 n12 k12) ∧ s0.size ≤ 2000000 ∧ strAt ms (i * 13) = s0 := by
  have hfl := flds_field
  obtain ⟨b, off, ha, hb, hat⟩ := src_at Tryz.underlying33 h hn hi (by rw [hfl]; decide)
  rw [hfl] at hat
  have hat : ∀ (j : Nat) (F : TypeId), ([9, 2, 3, 3, 9, 9, 9, 4, 3, 9, 4, 38, 38] : List TypeId)[j]? = some F → ∃ m, ms[i * 13 + j]? = some m ∧ w.cell? ⟨b, off + i * 13 + j, none⟩ = some m.val ∧ Src w F m ∧ Nm m := hat
  obtain ⟨q0, e0, c0, r0, t0⟩ := hat 0 9 rfl
  obtain ⟨s0, rfl, z0⟩ := src_str r0 t0
  obtain ⟨q1, e1, c1, r1, t1⟩ := hat 1 2 rfl
  obtain ⟨x1, rfl⟩ := ok_num2 Tryz.underlying2 r1.1
  obtain ⟨q2, e2, c2, r2, t2⟩ := hat 2 3 rfl
  obtain ⟨x2, rfl⟩ := ok_num2 Tryz.underlying3 r2.1
  obtain ⟨q3, e3, c3, r3, t3⟩ := hat 3 3 rfl
  obtain ⟨x3, rfl⟩ := ok_num2 Tryz.underlying3 r3.1
  obtain ⟨q4, e4, c4, r4, t4⟩ := hat 4 9 rfl
  obtain ⟨s4, rfl, _⟩ := src_str r4 t4
  obtain ⟨q5, e5, c5, r5, t5⟩ := hat 5 9 rfl
  obtain ⟨s5, rfl, _⟩ := src_str r5 t5
  obtain ⟨q6, e6, c6, r6, t6⟩ := hat 6 9 rfl
  obtain ⟨s6, rfl, _⟩ := src_str r6 t6
  obtain ⟨q7, e7, c7, r7, t7⟩ := hat 7 4 rfl
  obtain ⟨y7, rfl⟩ := ok_tru2 Tryz.underlying4 r7.1
  obtain ⟨q8, e8, c8, r8, t8⟩ := hat 8 3 rfl
  obtain ⟨x8, rfl⟩ := ok_num2 Tryz.underlying3 r8.1
  obtain ⟨q9, e9, c9, r9, t9⟩ := hat 9 9 rfl
  obtain ⟨s9, rfl, _⟩ := src_str r9 t9
  obtain ⟨q10, e10, c10, r10, t10⟩ := hat 10 4 rfl
  obtain ⟨y10, rfl⟩ := ok_tru2 Tryz.underlying4 r10.1
  obtain ⟨q11, e11, c11, r11, t11⟩ := hat 11 38 rfl
  obtain ⟨a11, n11, k11, m11, rfl⟩ := src_ls Tryz.underlying38 r11
  obtain ⟨q12, e12, c12, r12, t12⟩ := hat 12 38 rfl
  obtain ⟨a12, n12, k12, m12, rfl⟩ := src_ls Tryz.underlying38 r12
  exact ⟨b, off, s0, x1, x2, x3, s4, s5, s6, y7, x8, s9, y10, a11, n11, k11, a12, n12, k12, ha, hb, c0, c1, c2, c3, c4, c5, c6, c7, c8, c9, c10, c11, c12, z0, by have h := e0; simp only [Nat.add_zero] at h; simp [strAt, h]⟩

theorem one_src {w : World} {a : Option Addr} {n c : Nat} {ms : List Md} (h : Src w 37 (.ls a n c ms)) (hn : Nm (.ls a n c ms)) {i : Nat} (hi : i < n) :
    ∃ b off s0 a1 n1 k1 a2 n2 k2, a = some ⟨b, off, none⟩ ∧ b < w.heap.size ∧ w.cell? ⟨b, off + i * 3, none⟩ = some (.string s0) ∧ w.cell? ⟨b, off + i * 3 + 1, none⟩ = some (.slice a1 n1 k1) ∧ w.cell? ⟨b, off + i * 3 + 2, none⟩ = some (.slice a2 n2 k2) ∧ s0.size ≤ 2000000 ∧ strAt ms (i * 3) = s0 := by
  have hfl := flds_oneof
  obtain ⟨b, off, ha, hb, hat⟩ := src_at Tryz.underlying37 h hn hi (by rw [hfl]; decide)
  rw [hfl] at hat
  have hat : ∀ (j : Nat) (F : TypeId), ([9, 38, 38] : List TypeId)[j]? = some F → ∃ m, ms[i * 3 + j]? = some m ∧ w.cell? ⟨b, off + i * 3 + j, none⟩ = some m.val ∧ Src w F m ∧ Nm m := hat
  obtain ⟨q0, e0, c0, r0, t0⟩ := hat 0 9 rfl
  obtain ⟨s0, rfl, z0⟩ := src_str r0 t0
  obtain ⟨q1, e1, c1, r1, t1⟩ := hat 1 38 rfl
  obtain ⟨a1, n1, k1, m1, rfl⟩ := src_ls Tryz.underlying38 r1
  obtain ⟨q2, e2, c2, r2, t2⟩ := hat 2 38 rfl
  obtain ⟨a2, n2, k2, m2, rfl⟩ := src_ls Tryz.underlying38 r2
  exact ⟨b, off, s0, a1, n1, k1, a2, n2, k2, ha, hb, c0, c1, c2, z0, by have h := e0; simp only [Nat.add_zero] at h; simp [strAt, h]⟩

def layQ (bh ba bq : Nat) : Value := .func (.func 146) #[] #[.pointer (some ⟨bh, 0, none⟩), .pointer (some ⟨ba, 0, none⟩), .pointer (some ⟨bq, 0, none⟩)]

def LayC (w0 : World) (H : ByteArray) (f : Nat) : Prop :=
  ∀ (sc : List Int) (a : Option Addr) (n c : Nat) (ms : List Md) (W : World) (bh ba bq bp bs be : Nat) (vf : Value) (h : Sy) (D : Nat → Prop) (d0 cc : Nat),
    byts sc → sc.length + f * 2000001 ≤ 200000000 → Src w0 34 (.ls a n c ms) → Nm (.ls a n c ms) → okd f n ms = true →
    Below w0.heap.size w0 W → w0.heap.size ≤ bs → w0.heap.size ≤ be → w0.heap.size ≤ d0 → d0 ≤ W.heap.size →
    Ob W bh #[.pointer (some ⟨bp, 0, none⟩), .string H] 204 → Ob W ba #[.int .i64 1, .bool false] 100 → Ob W bq #[layQ bh ba bq] 206 →
    cc + (msgL f sc ms n).length ≤ 900000000 → Pw W bp bs be vf h D d0 cc →
    Calls Tryz.prog 146 #[.string (strOfNums sc), .slice a n c, .pointer (some ⟨bh, 0, none⟩), .pointer (some ⟨ba, 0, none⟩), .pointer (some ⟨bq, 0, none⟩)] W fun e W' => Xend W bp bs be vf D d0 (cc + (msgL f sc ms n).length) (insl H h (msgL f sc ms n)) (.slice (some ⟨W.heap.size, 0, none⟩) n n) e W'

theorem lay_put {H : ByteArray} {h hk : Sy} {f : Nat} {sc : List Int} {ms : List Md} {k n : Nat} {F : ByteArray} (hkn : k < n) (hI : insl H h (msgL (f + 1) sc ms k) = .ok hk) (hone : insl H hk (oneL f sc ms k) = .error F) : insl H h (msgL (f + 1) sc ms n) = .error F := by
  obtain ⟨r, hr⟩ := msgL_split f sc ms hkn
  rw [hr, insl_ok_left hI, insl_err_left hone]

theorem lay_next {H : ByteArray} {h hk h' : Sy} {f : Nat} {sc : List Int} {ms : List Md} {k : Nat} (hI : insl H h (msgL (f + 1) sc ms k) = .ok hk) (hone : insl H hk (oneL f sc ms k) = .ok h') : insl H h (msgL (f + 1) sc ms (k + 1)) = .ok h' := by
  rw [msgL_succ, insl_ok_left hI, hone]

theorem len_next (f : Nat) (sc : List Int) (ms : List Md) (k : Nat) : (msgL (f + 1) sc ms (k + 1)).length = (msgL (f + 1) sc ms k).length + (oneL f sc ms k).length := by rw [msgL_succ, List.length_append]

theorem len_le (f : Nat) (sc : List Int) (ms : List Md) {k n : Nat} (h : k < n) : (msgL (f + 1) sc ms k).length + (oneL f sc ms k).length ≤ (msgL (f + 1) sc ms n).length := by
  obtain ⟨r, hr⟩ := msgL_split f sc ms h
  rw [hr, List.length_append, List.length_append]
  omega

theorem okd_at {f n : Nat} {ms : List Md} (h : okd f n ms = true) {k : Nat} (hk : k < n) : ∃ f', f = f' + 1 ∧ okd f' (lsN ms (k * 11 + 2)) (lsM ms (k * 11 + 2)) = true := by
  cases f with
  | zero =>
    have : n = 0 := by simpa [okd] using h
    omega
  | succ f' =>
    refine ⟨f', rfl, ?_⟩
    simp only [okd, List.all_eq_true, List.mem_range] at h
    exact h k hk

def A0 (E : TypeId) : Prop := E ≠ 9 ∧ E ≠ 40

theorem own_enumsV {w : World} {lo : Nat} {A : TypeId → Prop} {m : Md} (h : Own Tryz.prog w lo A 35 m) : Own Tryz.prog w lo A0 35 m :=
  h.fam (L := [35, 41, 9, 2, 38, 5]) (by kernel_rfl) (fun T hT E hE => by
    simp only [List.mem_cons, List.not_mem_nil, or_false] at hT
    unfold A0
    rcases hT with rfl | rfl | rfl | rfl | rfl | rfl
    · rw [Tryz.underlying35] at hE; cases hE; decide
    · rw [Tryz.underlying41] at hE; cases hE; decide
    · rw [Tryz.underlying9] at hE; cases hE
    · rw [Tryz.underlying2] at hE; cases hE
    · rw [Tryz.underlying38] at hE; cases hE; decide
    · rw [Tryz.underlying5] at hE; cases hE) (by simp)

theorem own_fieldsV {w : World} {lo : Nat} {A : TypeId → Prop} {m : Md} (h : Own Tryz.prog w lo A 33 m) : Own Tryz.prog w lo A0 33 m :=
  h.fam (L := [33, 9, 2, 3, 4, 38, 5]) (by kernel_rfl) (fun T hT E hE => by
    simp only [List.mem_cons, List.not_mem_nil, or_false] at hT
    unfold A0
    rcases hT with rfl | rfl | rfl | rfl | rfl | rfl | rfl
    · rw [Tryz.underlying33] at hE; cases hE; decide
    · rw [Tryz.underlying9] at hE; cases hE
    · rw [Tryz.underlying2] at hE; cases hE
    · rw [Tryz.underlying3] at hE; cases hE
    · rw [Tryz.underlying4] at hE; cases hE
    · rw [Tryz.underlying38] at hE; cases hE; decide
    · rw [Tryz.underlying5] at hE; cases hE) (by simp)

theorem val_next {H : ByteArray} {h hj : Sy} {sc : List Int} {m1 : List Md} {j sz : Nat} {kd : Int} {s1 : ByteArray} (hv : insl H h (valL sc kd sz m1 j) = .ok hj) (e1 : strAt m1 (j * sz) = s1) (hF1 : hj (jn sc s1) = none) : insl H h (valL sc kd sz m1 (j + 1)) = .ok (syPut hj (jn sc s1) (kd, H)) := by
  rw [valL_succ, insl_append, hv, e1]
  show insl H hj [(jn sc s1, kd)] = _
  rw [insl_one H hj _ kd _ hF1]
  rfl

theorem val_err {H : ByteArray} {h hj : Sy} {sc : List Int} {m1 : List Md} {j n sz : Nat} {kd : Int} {s1 : ByteArray} (hjn : j < n) (hv : insl H h (valL sc kd sz m1 j) = .ok hj) (e1 : strAt m1 (j * sz) = s1) (hF1 : hj (jn sc s1) ≠ none) : insl H h (valL sc kd sz m1 n) = .error (jn sc s1) := by
  obtain ⟨r, hr⟩ := valL_split sc kd sz m1 hjn
  rw [hr, valL_succ, insl_append, insl_append, hv, e1]
  show (match insl H hj [(jn sc s1, kd)] with | .ok h' => insl H h' r | .error F => .error F) = _
  rw [insl_dup H hj _ kd _ hF1]

theorem valL_len (sc : List Int) (kd : Int) (sz : Nat) (ms : List Md) (n : Nat) : (valL sc kd sz ms n).length = n := by simp [valL]

theorem pend_cases {R : Option Addr → Prop} {W W' : World} {bp bs be : Nat} {vf v : Value} {r : Except ByteArray Sy} {e : Ending} (h : Pend R W bp bs be vf r v e W') : W.grownBy W' (some bs) ∧ ((∃ h', r = .ok h' ∧ e = .returned v ∧ Px R W' bp bs be vf h') ∨ (∃ F, r = .error F ∧ e = .panicked [twi F])) := by
  obtain ⟨h1, h2⟩ := h
  refine ⟨h1, ?_⟩
  cases r with
  | ok h' => exact .inl ⟨h', rfl, h2⟩
  | error F => exact .inr ⟨F, rfl, h2⟩

theorem xend_cases {W W' : World} {bp bs be : Nat} {vf v : Value} {D : Nat → Prop} {d0 c : Nat} {r : Except ByteArray Sy} {e : Ending} (h : Xend W bp bs be vf D d0 c r v e W') : Fx (Sp bs be D) W W' ∧ ((∃ h', r = .ok h' ∧ e = .returned v ∧ ∃ D', Dg W D D' ∧ Pw W' bp bs be vf h' D' d0 c) ∨ (∃ F, r = .error F ∧ e = .panicked [twi F])) := by
  obtain ⟨h1, h2⟩ := h
  refine ⟨h1, ?_⟩
  cases r with
  | ok h' => exact .inl ⟨h', rfl, h2⟩
  | error F => exact .inr ⟨F, rfl, h2⟩

theorem insl_six (H : ByteArray) {l : List (ByteArray × Int)} {h h' : Sy} (e : insl H h l = .ok h') : ∀ x H0, h x = some (6, H0) → ∃ H', h' x = some (6, H') := fun x H0 hx => ⟨H0, insl_keeps H l h h' e x _ hx⟩

theorem cpyl_ls {w : World} {lo : Nat} {A : TypeId → Prop} {Ts : List TypeId} {ms : List Md} {cs : List Value} (h : CpyL w lo A Ts ms cs) {j : Nat} {T : TypeId} {a p : Option Addr} {n n' c r : Nat} {m : List Md} (hm : ms[j]? = some (.ls a n c m)) (hT : Ts[j]? = some T) (hc : cs[j]? = some (.slice p n' r)) : ∃ m', Own Tryz.prog w lo A T (.ls p n' r m') ∧ AlkL m m' ∧ n = n' := by
  obtain ⟨ms', rfl, hl, hk⟩ := h
  rw [List.getElem?_map] at hc
  cases hj : ms'[j]? with
  | none => rw [hj] at hc; cases hc
  | some x =>
    rw [hj] at hc
    obtain ⟨ho, ha⟩ := hk j _ x T hm hj hT
    cases ha with
    | ls hl' h' =>
      simp [Md.val] at hc
      obtain ⟨rfl, rfl, rfl⟩ := hc
      exact ⟨_, ho, ⟨hl', h'⟩, rfl⟩

end Go.Proofs.YtafmoceinamcdaaGreat
