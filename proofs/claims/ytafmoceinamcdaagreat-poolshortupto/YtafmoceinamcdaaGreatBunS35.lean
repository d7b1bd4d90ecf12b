/- Put together by a program out of these texts of mine: VSz, VRj. -/
import Derived.Test.YtafmoceinamcdaaGreatBunS33

namespace Go.Proofs.YtafmoceinamcdaaGreat
open Go.RowKit
set_option linter.unusedVariables false
set_option linter.unusedSimpArgs false

def NmL (ms : List Md) : Prop := ∀ (i : Nat) (m : Md), ms[i]? = some m → Nm m

theorem NmL.of {a : Option Addr} {n c : Nat} {ms : List Md} (h : Nm (.ls a n c ms)) : NmL ms := fun i m hi => nm_at h hi

theorem NmL.at {ms : List Md} (h : NmL ms) (i : Nat) : NmL (lsM ms i) := by
  unfold lsM
  cases hq : ms[i]? with
  | none => intro j m hj; simp at hj
  | some m =>
    have h1 := h i m hq
    cases m with
    | ls a n c ms' => exact .of h1
    | _ => intro j m hj; simp at hj

theorem strAt_size {ms : List Md} (h : NmL ms) (i : Nat) : (strAt ms i).size ≤ 2000000 := by
  have he : ByteArray.size ⟨#[]⟩ ≤ 2000000 := by show 0 ≤ 2000000; omega
  unfold strAt
  cases hq : ms[i]? with
  | none => exact he
  | some m =>
    have h1 := h i m hq
    cases m with
    | str s => exact nm_str h1
    | _ => exact he

theorem jn_size (sc : List Int) (s : ByteArray) : (jn sc s).size ≤ sc.length + 1 + s.size := by
  have h3 := numsOf_len s
  have h4 : (jn sc s).size = (njoin sc (numsOf s)).length := strOfNums_size _
  rw [h4]
  unfold njoin
  split
  · omega
  · simp only [List.length_append, List.length_cons, List.length_nil]; omega

theorem njoin_lenS (sc : List Int) (s : ByteArray) : (njoin sc (numsOf s)).length ≤ sc.length + 1 + s.size := by
  have h3 := numsOf_len s
  unfold njoin
  split
  · omega
  · simp only [List.length_append, List.length_cons, List.length_nil]; omega

theorem valL_size {sc : List Int} {kd : Int} {sz : Nat} {ms : List Md} {n : Nat} (h : NmL ms) : ∀ x ∈ valL sc kd sz ms n, x.1.size ≤ sc.length + 2000001 := by
  intro x hx
  unfold valL at hx
  obtain ⟨j, _, rfl⟩ := List.mem_map.1 hx
  have h1 := jn_size sc (strAt ms (j * sz))
  have h2 := strAt_size h (j * sz)
  show (jn sc (strAt ms (j * sz))).size ≤ _
  omega

theorem enumL_size {sc : List Int} {ms : List Md} {n : Nat} (h : NmL ms) : ∀ x ∈ enumL sc ms n, x.1.size ≤ sc.length + 2000001 := by
  intro x hx
  unfold enumL at hx
  obtain ⟨j, _, hx⟩ := List.mem_flatMap.1 hx
  rcases List.mem_cons.1 hx with rfl | hx
  · have h1 := jn_size sc (strAt ms (j * 4))
    have h2 := strAt_size h (j * 4)
    show (jn sc (strAt ms (j * 4))).size ≤ _
    omega
  · exact valL_size (h.at _) x hx

theorem servL_size {sc : List Int} {ms : List Md} {n : Nat} (h : NmL ms) : ∀ x ∈ servL sc ms n, x.1.size ≤ sc.length + 4000002 := by
  intro x hx
  unfold servL at hx
  obtain ⟨j, _, hx⟩ := List.mem_flatMap.1 hx
  have h2 := strAt_size h (j * 4)
  rcases List.mem_cons.1 hx with rfl | hx
  · have h1 := jn_size sc (strAt ms (j * 4))
    show (jn sc (strAt ms (j * 4))).size ≤ _
    omega
  · have h3 := valL_size (h.at _) x hx
    have h4 := njoin_lenS sc (strAt ms (j * 4))
    omega

set_option maxRecDepth 100000 in
theorem msgL_size : ∀ (f : Nat) {sc : List Int} {ms : List Md} {n : Nat}, NmL ms → ∀ x ∈ msgL f sc ms n, x.1.size ≤ sc.length + (f + 1) * 2000001
  | 0, sc, ms, n, h => by intro x hx; simp [msgL] at hx
  | f + 1, sc, ms, n, h => by
    intro x hx
    rw [msgL_flat] at hx
    obtain ⟨i, _, hx⟩ := List.mem_flatMap.1 hx
    have h2 := strAt_size h (i * 11)
    have h1 := jn_size sc (strAt ms (i * 11))
    have h4 := njoin_lenS sc (strAt ms (i * 11))
    have e1 : (f + 1 + 1) * 2000001 = (f + 1) * 2000001 + 2000001 := by rw [Nat.add_mul (f + 1) 1, Nat.one_mul]
    have e2 : 2000001 ≤ (f + 1) * 2000001 := by
      have := Nat.mul_le_mul_right 2000001 (show 1 ≤ f + 1 by omega)
      rwa [Nat.one_mul] at this
    have ihm := @msgL_size f
    rw [e1]
    clear e1
    generalize (f + 1) * 2000001 = q at e2 ihm ⊢
    have h5 : (njoin sc (numsOf (strAt ms (i * 11)))).length + 2000001 ≤ sc.length + (q + 2000001) := by
      clear h1 ihm hx
      generalize (njoin sc (numsOf (strAt ms (i * 11)))).length = u at h4 ⊢
      generalize (strAt ms (i * 11)).size = v at h4 h2
      omega
    have h6 : (njoin sc (numsOf (strAt ms (i * 11)))).length + q ≤ sc.length + (q + 2000001) := by
      clear h1 ihm hx
      generalize (njoin sc (numsOf (strAt ms (i * 11)))).length = u at h4 ⊢
      generalize (strAt ms (i * 11)).size = v at h4 h2
      omega
    unfold oneL at hx
    simp only [List.mem_cons, List.mem_append] at hx
    rcases hx with rfl | hx | hx | hx | hx | hx
    · show (jn sc (strAt ms (i * 11))).size ≤ _
      omega
    · exact Nat.le_trans (valL_size (h.at _) x hx) h5
    · exact Nat.le_trans (valL_size (h.at _) x hx) h5
    · exact Nat.le_trans (ihm (h.at _) x hx) h6
    · exact Nat.le_trans (enumL_size (h.at _) x hx) h5
    · exact Nat.le_trans (valL_size (h.at _) x hx) h5

theorem pchain_size : ∀ (g : Nat) (s : List Int), ∀ t ∈ pchain g s, t.length ≤ s.length
  | 0, s => by intro t ht; simp [pchain] at ht
  | g + 1, s => by
    intro t ht
    unfold pchain at ht
    split at ht
    · simp at ht
    · rename_i hs
      rcases List.mem_cons.1 ht with rfl | ht
      · exact Nat.le_refl _
      · have h1 := pchain_size g _ t ht
        have h2 := nparent_ltV s hs
        omega

theorem pkL_size (sp : List Int) : ∀ x ∈ pkL sp, x.1.size ≤ sp.length := by
  intro x hx
  unfold pkL at hx
  obtain ⟨t, ht, rfl⟩ := List.mem_map.1 hx
  show (strOfNums t).size ≤ _
  rw [strOfNums_size]
  exact pchain_size _ _ t ht

theorem radd_mem {H : ByteArray} {st : Sl × Option ByteArray} {x : ByteArray × Int} {y : ByteArray × Int × ByteArray} (h : y ∈ (radd H st x).1) : y ∈ st.1 ∨ y.1 = x.1 := by
  obtain ⟨L, er⟩ := st
  obtain ⟨F, kd⟩ := x
  cases er with
  | some G => exact .inl h
  | none =>
    cases hl : slook L F with
    | none =>
      rw [radd_new hl] at h
      rcases List.mem_append.1 h with h | h
      · exact .inl h
      · simp only [List.mem_singleton] at h
        subst h
        exact .inr rfl
    | some z =>
      obtain ⟨k, H'⟩ := z
      rw [radd_old hl] at h
      split at h <;> exact .inl h

theorem radds_mem {H : ByteArray} : ∀ (l : List (ByteArray × Int)) {st : Sl × Option ByteArray} {y : ByteArray × Int × ByteArray}, y ∈ (l.foldl (radd H) st).1 → y ∈ st.1 ∨ ∃ x ∈ l, y.1 = x.1
  | [], st, y, h => .inl h
  | x :: l, st, y, h => by
    rcases radds_mem l h with h | ⟨z, hz, h⟩
    · rcases radd_mem h with h | h
      · exact .inl h
      · exact .inr ⟨x, List.mem_cons_self, h⟩
    · exact .inr ⟨z, List.mem_cons_of_mem _ hz, h⟩

set_option maxRecDepth 100000 in
theorem rfilesS_size {ms : List Md} (h : NmL ms) : ∀ k, ∀ y ∈ (rfilesS ms k).1, y.1.size ≤ 140000000
  | 0 => by intro y hy; simp [rfilesS] at hy
  | k + 1 => by
    intro y hy
    have ih := rfilesS_size h k
    have hs := strAt_size h (k * 11 + 1)
    have hl := numsOf_len (strAt ms (k * 11 + 1))
    rcases radds_mem _ hy with hy | ⟨x, hx, he⟩
    · exact ih y hy
    · rw [he]
      rcases List.mem_append.1 hx with hx | hx
      · have := pkL_size _ x hx; generalize x.1.size = y at this ⊢; omega
      · unfold fileL partL at hx
        simp only [List.mem_append] at hx
        rcases hx with hx | hx | hx | hx
        · have := msgL_size 64 (h.at _) x hx; generalize x.1.size = y at this ⊢; omega
        · have := enumL_size (h.at _) x hx; generalize x.1.size = y at this ⊢; omega
        · have := servL_size (h.at _) x hx; generalize x.1.size = y at this ⊢; omega
        · have := valL_size (h.at _) x hx; generalize x.1.size = y at this ⊢; omega

theorem valL_kind {sc : List Int} {kd : Int} {sz : Nat} {ms : List Md} {n : Nat} (h : kd ≠ 1) : ∀ x ∈ valL sc kd sz ms n, x.2 ≠ 1 := by
  intro x hx
  unfold valL at hx
  obtain ⟨j, _, rfl⟩ := List.mem_map.1 hx
  exact h

theorem enumL_kind {sc : List Int} {ms : List Md} {n : Nat} : ∀ x ∈ enumL sc ms n, x.2 ≠ 1 := by
  intro x hx
  unfold enumL at hx
  obtain ⟨j, _, hx⟩ := List.mem_flatMap.1 hx
  rcases List.mem_cons.1 hx with rfl | hx
  · show (3 : Int) ≠ 1; decide
  · exact valL_kind (by decide) x hx

theorem servL_kind {sc : List Int} {ms : List Md} {n : Nat} : ∀ x ∈ servL sc ms n, x.2 ≠ 1 := by
  intro x hx
  unfold servL at hx
  obtain ⟨j, _, hx⟩ := List.mem_flatMap.1 hx
  rcases List.mem_cons.1 hx with rfl | hx
  · show (8 : Int) ≠ 1; decide
  · exact valL_kind (by decide) x hx

theorem msgL_kind : ∀ (f : Nat) {sc : List Int} {ms : List Md} {n : Nat}, ∀ x ∈ msgL f sc ms n, x.2 ≠ 1
  | 0, sc, ms, n => by intro x hx; simp [msgL] at hx
  | f + 1, sc, ms, n => by
    intro x hx
    rw [msgL_flat] at hx
    obtain ⟨i, _, hx⟩ := List.mem_flatMap.1 hx
    unfold oneL at hx
    simp only [List.mem_cons, List.mem_append] at hx
    rcases hx with rfl | hx | hx | hx | hx | hx
    · show (2 : Int) ≠ 1; decide
    · exact valL_kind (by decide) x hx
    · exact valL_kind (by decide) x hx
    · exact msgL_kind f x hx
    · exact enumL_kind x hx
    · exact valL_kind (by decide) x hx

theorem partL_kind {sc : List Int} {m4 : List Md} {n4 : Nat} {m5 : List Md} {n5 : Nat} {m6 : List Md} {n6 : Nat} {m7 : List Md} {n7 : Nat} : ∀ x ∈ partL sc m4 n4 m5 n5 m6 n6 m7 n7, x.2 ≠ 1 := by
  intro x hx
  unfold partL at hx
  simp only [List.mem_append] at hx
  rcases hx with hx | hx | hx | hx
  · exact msgL_kind 64 x hx
  · exact enumL_kind x hx
  · exact servL_kind x hx
  · exact valL_kind (by decide) x hx

theorem files_same (ms : List Md) : ∀ k, match filesR ms k with
    | .ok h => (rfilesS ms k).2 = none ∧ slook (rfilesS ms k).1 = h ∧ PCx h []
    | .error F => (rfilesS ms k).2 = some F
  | 0 => ⟨rfl, rfl, fun t _ _ hH => by obtain ⟨H, h⟩ := hH; cases h⟩
  | k + 1 => by
    have ih := files_same ms k
    have hS : rfilesS ms (k + 1) = (pkL (numsOf (strAt ms (k * 11 + 1))) ++ fileL ms k).foldl (radd (strAt ms (k * 11))) (rfilesS ms k) := rfl
    cases hr : filesR ms k with
    | error F =>
      rw [hr] at ih
      simp only at ih
      rw [filesR_err hr 1]
      simp only
      rw [hS]
      generalize hst : rfilesS ms k = st at ih ⊢
      obtain ⟨L, er⟩ := st
      simp only at ih
      subst ih
      rw [radd_stuck]
    | ok h =>
      rw [hr] at ih
      simp only at ih
      obtain ⟨i1, i2, i3⟩ := ih
      have hF : filesR ms (k + 1) = fileR (strAt ms (k * 11)) h (numsOf (strAt ms (k * 11 + 1))) (fileL ms k) := by
        show (match filesR ms k with | .ok h => _ | .error F => _) = _
        rw [hr]
      rw [hF, hS]
      generalize hst : rfilesS ms k = st at i1 i2 ⊢
      obtain ⟨L, er⟩ := st
      simp only at i1 i2
      subst i1
      subst i2
      have hb : byts (numsOf (strAt ms (k * 11 + 1))) := numsOf_byts _
      have hkl : ∀ x ∈ fileL ms k, x.2 ≠ 1 := partL_kind
      generalize numsOf (strAt ms (k * 11 + 1)) = sp at hb ⊢
      generalize fileL ms k = l at hkl ⊢
      generalize strAt ms (k * 11) = H
      have h1 := radd_pk H (sp.length + 1) sp L hb (by omega) (fun t ht hne hH => by
        rcases i3 t ht hne hH with h | h | h
        · exact .inl h
        · exact .inl h
        · exact .inr (.inr h))
      rw [List.foldl_append]
      unfold fileR pkL
      cases hp : pk H (sp.length + 1) (slook L) sp with
      | error F =>
        rw [hp] at h1
        simp only at h1 ⊢
        obtain ⟨L', h2⟩ := h1
        rw [h2, radd_stuck]
      | ok h' =>
        rw [hp] at h1
        simp only at h1 ⊢
        obtain ⟨L', h2, h3, h4⟩ := h1
        rw [h2]
        have h5 := radd_insl H l L' hkl
        rw [h3] at h5
        cases hi : insl H h' l with
        | error F =>
          rw [hi] at h5
          simp only at h5 ⊢
          obtain ⟨L'', h6⟩ := h5
          rw [h6]
        | ok h'' =>
          rw [hi] at h5
          simp only at h5 ⊢
          obtain ⟨L'', h6, h7⟩ := h5
          rw [h6]
          exact ⟨rfl, h7, PCx.insl hkl h4 hi⟩

end Go.Proofs.YtafmoceinamcdaaGreat
