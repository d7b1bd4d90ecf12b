/- Put together by a program out of these texts of mine: VUn. -/
import Derived.Test.YtafmoceinamcdaaGreatBunS26
import Derived.Test.YtafmoceinamcdaaGreatBunS27

namespace Go.Proofs.YtafmoceinamcdaaGreat
open Go.RowKit
set_option linter.unusedVariables false
set_option linter.unusedSimpArgs false

theorem Alk.trans {a b : Md} (h : Alk a b) : ∀ {c : Md}, Alk b c → Alk a c := by
  induction h with
  | str => intro c k; exact k
  | num => intro c k; exact k
  | tru => intro c k; exact k
  | ls hl h ih =>
    intro c k
    cases k with
    | ls hl' h' =>
      refine .ls (by omega) (fun i m m'' hm hm'' => ?_)
      have hi := (List.getElem?_eq_some_iff.1 hm).1
      exact ih i m _ hm (List.getElem?_eq_getElem (by omega)) (h' i _ m'' (List.getElem?_eq_getElem (by omega)) hm'')

theorem Cpy.alk {w : World} {lo : Nat} {A : TypeId → Prop} {T : TypeId} {m m1 : Md} {v : Value} (ha : Alk m m1) (h : Cpy w lo A T m1 v) : Cpy w lo A T m v := by
  obtain ⟨m', h1, h2, h3⟩ := h
  exact ⟨m', h1, h2, ha.trans h3⟩

theorem own_src {P : Program} {w w0 : World} {lo : Nat} {A : TypeId → Prop} {T : TypeId} {m' : Md} (h : Own P w lo A T m') : ∀ {m : Md}, Alk m m' → Ok P w0 T m → Sz P T m → Ok P w T m' ∧ Sz P T m' := by
  induction h with
  | str hT =>
    intro m ha ok sz
    cases ha
    cases ok with
    | str _ hs =>
      cases sz with
      | str h => exact ⟨.str hT hs, .str h⟩
  | num hT =>
    intro m ha ok sz
    cases ha
    cases ok with
    | num _ hw => exact ⟨.num hT hw, .num⟩
  | tru hT =>
    intro m ha ok sz
    exact ⟨.tru hT, .tru⟩
  | ls hT hA ho hk ih =>
    intro m ha ok sz
    cases ha with
    | ls hl h =>
      cases ok with
      | ls hT2 hnc hm hnil hlen hmem hk2 =>
        rw [hT] at hT2
        cases hT2
        cases sz with
        | ls hT3 hb hk3 =>
          rw [hT] at hT3
          cases hT3
          have hlen' : ∀ {ms : List Md}, (ms.map Md.val).length = ms.length := fun {ms} => List.length_map _
          have hrec : ∀ i m' F, _ = some m' → _ = some F → Ok P w F m' ∧ Sz P F m' := fun i m' F hi hF =>
            ih i m' F hi hF (h i _ m' (List.getElem?_eq_getElem (by have := (List.getElem?_eq_some_iff.1 hi).1; omega)) hi) (hk2 i _ F (List.getElem?_eq_getElem (by have := (List.getElem?_eq_some_iff.1 hi).1; omega)) hF) (hk3 i _ F (List.getElem?_eq_getElem (by have := (List.getElem?_eq_some_iff.1 hi).1; omega)) hF)
          have ho' := ho
          rcases ho.2 with ⟨h0, hn0⟩ | ⟨g, cap, cur, h0, h1, h2, h3, h4, h5, h6⟩
          · cases h0
            exact ⟨.ls hT (Nat.le_refl _) (Nat.zero_le _) (fun _ => rfl) (by simpa using ho.1) (fun hp => absurd hp (by omega)) (fun i m' F hi hF => (hrec i m' F hi hF).1), .ls hT hb (fun i m' F hi hF => (hrec i m' F hi hF).2)⟩
          · cases h0
            refine ⟨.ls hT h3 h4 (fun e => by cases e) (by simpa using ho.1) (fun hp => ⟨g, 0, rfl, (ho'.lt g rfl).2, fun i m' hi => ?_⟩) (fun i m' F hi hF => (hrec i m' F hi hF).1), .ls hT hb (fun i m' F hi hF => (hrec i m' F hi hF).2)⟩
            have hil := (List.getElem?_eq_some_iff.1 hi).1
            have hl1 := ho.1
            rw [List.length_map] at hl1
            rw [Nat.zero_add, ho'.cellAt i (by omega), List.getElem?_map, hi]
            rfl

noncomputable def unitM (ms : List Md) : Nat → List Md
  | 0 => []
  | k + 1 => unitM ms k ++ [.str (strAt ms (k * 11)), .ls none (lsN ms (k * 11 + 2)) 0 (lsM ms (k * 11 + 2)), .ls none (lsN ms (k * 11 + 3)) 0 (lsM ms (k * 11 + 3))]

theorem unitM_len (ms : List Md) : ∀ k, (unitM ms k).length = k * 3
  | 0 => rfl
  | k + 1 => by
    have ih := unitM_len ms k
    show (unitM ms k ++ _).length = _
    rw [List.length_append, ih]
    simp
    omega

theorem unitM_at (ms : List Md) {i : Nat} : ∀ {n : Nat}, i < n → ∀ j, j < 3 → (unitM ms n)[i * 3 + j]? = [Md.str (strAt ms (i * 11)), .ls none (lsN ms (i * 11 + 2)) 0 (lsM ms (i * 11 + 2)), .ls none (lsN ms (i * 11 + 3)) 0 (lsM ms (i * 11 + 3))][j]?
  | 0, h, _, _ => absurd h (Nat.not_lt_zero _)
  | n + 1, h, j, hj => by
    have hl := unitM_len ms n
    show (unitM ms n ++ _)[i * 3 + j]? = _
    by_cases hi : i < n
    · rw [List.getElem?_append_left (by omega)]
      exact unitM_at ms hi j hj
    · obtain rfl : i = n := by omega
      rw [List.getElem?_append_right (by omega), hl, show i * 3 + j - i * 3 = j by omega]

theorem flds_unit : flds Tryz.prog 75 = [9, 30, 59] := by kernel_rfl

theorem Tryz.infUnit : (Tryz.prog.info? 75).map (fun i => (i.zero, i.size, i.bytes)) = some (some (.agg #[.string ⟨#[]⟩, .slice none 0 0, .slice none 0 0]), 3, 64) := by kernel_rfl

theorem fw_at {w : World} {lo : Nat} {D : Nat → Prop} {ms : List Md} {n : Nat} {xs : List Value} {va : Option Addr} {vc : Nat} (hx : w.ownsRow 0 62 11 (.slice va n vc) n xs) (hc : Fcs w lo D ms n xs) {k : Nat} (hk : k < n) :
    ∃ g off s1 s8 p2 p3 p4 p5 p6 p7 p9 p10 r2 r3 n4 r4 n5 r5 n6 r6 n7 r7 n9 r9 n10 r10 e2 e3, va = some ⟨g, off, none⟩ ∧ g < w.heap.size ∧ w.cell? ⟨g, off + k * 11, none⟩ = some (.string (strAt ms (k * 11))) ∧ w.cell? ⟨g, off + k * 11 + 1, none⟩ = some (.string s1) ∧ w.cell? ⟨g, off + k * 11 + 2, none⟩ = some (.slice p2 (lsN ms (k * 11 + 2)) r2) ∧ w.cell? ⟨g, off + k * 11 + 3, none⟩ = some (.slice p3 (lsN ms (k * 11 + 3)) r3) ∧ w.cell? ⟨g, off + k * 11 + 4, none⟩ = some (.slice p4 n4 r4) ∧ w.cell? ⟨g, off + k * 11 + 5, none⟩ = some (.slice p5 n5 r5) ∧ w.cell? ⟨g, off + k * 11 + 6, none⟩ = some (.slice p6 n6 r6) ∧ w.cell? ⟨g, off + k * 11 + 7, none⟩ = some (.slice p7 n7 r7) ∧ w.cell? ⟨g, off + k * 11 + 8, none⟩ = some (.string s8) ∧ w.cell? ⟨g, off + k * 11 + 9, none⟩ = some (.slice p9 n9 r9) ∧ w.cell? ⟨g, off + k * 11 + 10, none⟩ = some (.slice p10 n10 r10) ∧
      Kpd w lo D 30 (.ls p2 (lsN ms (k * 11 + 2)) r2 e2) ∧ AlkL (lsM ms (k * 11 + 2)) e2 ∧ Kpd w lo D 59 (.ls p3 (lsN ms (k * 11 + 3)) r3 e3) ∧ AlkL (lsM ms (k * 11 + 3)) e3 := by
  obtain ⟨hl, s1, s8, p2, p3, p4, p5, p6, p7, p9, p10, r2, r3, n4, r4, n5, r5, n6, r6, n7, r7, n9, r9, n10, r10, e2, e3, hu, k2, a2, k3, a3⟩ := hc k hk
  have hlx := hx.1
  obtain ⟨g, hg⟩ : ∃ g, va = some ⟨g, 0, none⟩ := by
    rcases hx.2 with ⟨h0, hn0⟩ | ⟨g, cap, cur, h0, _⟩
    · omega
    · cases h0; exact ⟨g, rfl⟩
  subst hg
  have hget : ∀ j u, j < 11 → ((xs.drop (k * 11)).take 11)[j]? = some u → w.cell? ⟨g, 0 + k * 11 + j, none⟩ = some u := fun j u hj h => by
    rw [List.getElem?_take_of_lt hj, List.getElem?_drop] at h
    rw [Nat.zero_add, hx.cellAt (k * 11 + j) (by omega), h]
  rw [hu] at hget
  exact ⟨g, 0, s1, s8, p2, p3, p4, p5, p6, p7, p9, p10, r2, r3, n4, r4, n5, r5, n6, r6, n7, r7, n9, r9, n10, r10, e2, e3, rfl, (hx.lt g rfl).2, hget 0 _ (by omega) rfl, hget 1 _ (by omega) rfl, hget 2 _ (by omega) rfl, hget 3 _ (by omega) rfl, hget 4 _ (by omega) rfl, hget 5 _ (by omega) rfl, hget 6 _ (by omega) rfl, hget 7 _ (by omega) rfl, hget 8 _ (by omega) rfl, hget 9 _ (by omega) rfl, hget 10 _ (by omega) rfl, k2, a2, k3, a3⟩

end Go.Proofs.YtafmoceinamcdaaGreat
