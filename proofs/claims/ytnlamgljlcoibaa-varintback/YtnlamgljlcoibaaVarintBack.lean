/- VarintBack, proved for every number and every slice of bytes behind it: what Put lays Take answers again, with how many bytes, and no error; no condition. -/
import Derived.Test.YtnlamgljlcoibaaRows
import Derived.WalkKit
import Derived.ProofKit
import Derived.OpenShut
import Derived.ShutString
import Derived.ChangeOld
import Derived.Below
import Derived.Test.YtnlamgljlcoibaaTake
import Derived.Test.YtnlamgljlcoibaaBkMath
import Derived.Test.YtnlamgljlcoibaaRef
import Derived.Test.YtnlamgljlcoibaaRow
import Derived.Laws.AppendOwnNone
namespace Go.Proofs.Ytnlamgljlcoibaa.varintBack
open Go.ChangeShapes Go.WideShapes Go.ChangeAt Go.RowKit
open Go.ChangeMaps (open_string shut_string)
set_option linter.unusedVariables false

theorem own : ownKnob Try.prog.godebug = none := by kernel_rfl
theorem laidOut : laidOutB Try.prog = true := by kernel_rfl

/-- WHAT THE WALK IS TOLD OF A SLICE OF INTEGERS THAT CAME IN: it is nil; or it leads to a row of 'cap' cells, the numbers 'zs' (the first 'len' are its elements, the rest its spare room), each fitting its kind. -/
def IsRow (k : IntKind) (w : World) (a : Option Addr) (len cap : Nat) (zs : List Int) : Prop :=
  (a = none ∧ len = 0 ∧ cap = 0 ∧ zs = []) ∨
  ∃ x, a = some x ∧ len ≤ cap ∧ cap ≤ maxLen ∧ zs.length = cap ∧ (∀ i, i < zs.length → w.cell? (x.add i) = some (.int k (zs.getD i 0))) ∧ ∀ n ∈ zs, (Lit.int k n).wf = true

theorem own_cells {W : World} {base b n c : Nat} {zs : List Int} (hn : zs.length = n) (h : W.ownsRow base 5 1 (.slice (some ⟨b, 0, none⟩) n c) n (zs.map (Value.int .u8))) :
    ∀ i, i < n → W.cell? ⟨b, 0 + i, none⟩ = some (.int .u8 (zs.getD i 0)) := by
  intro i hi
  have := h.cellAt i (by omega)
  rw [Nat.zero_add, this]
  simp [List.getElem?_eq_getElem (show i < zs.length by omega), List.getD]

theorem getD_bd {l : List Int} (h : ∀ c ∈ l, 0 ≤ c ∧ c ≤ 255) (i : Nat) : 0 ≤ l.getD i 0 ∧ l.getD i 0 ≤ 255 := by
  rcases Nat.lt_or_ge i l.length with hl | hl
  · simp only [List.getD, List.getElem?_eq_getElem hl, Option.getD_some]
    exact h _ (List.getElem_mem hl)
  · simp [List.getD, List.getElem?_eq_none hl]

theorem mem_bd {l : List Int} (h : ∀ i, 0 ≤ l.getD i 0 ∧ l.getD i 0 ≤ 255) : ∀ c ∈ l, 0 ≤ c ∧ c ≤ 255 := by
  intro c hc
  obtain ⟨i, hi, rfl⟩ := List.getElem_of_mem hc
  have := h i
  simpa [List.getD, List.getElem?_eq_getElem hi] using this

theorem ints_one (l : List Int) : ∀ u, u ∈ l.map (Value.int .u8) → u.oneCell' = true := by
  intro u hu
  obtain ⟨n, _, rfl⟩ := List.mem_map.1 hu
  rfl

/-- What Take answers of the bytes of n, and more, where they lie in a row of the call's own. -/
theorem take_put {W : World} {base g c N : Nat} {n : Int} {zs : List Int} (h0 : 0 ≤ n) (h1 : n ≤ 18446744073709551615) (hN : (vb 9 n.toNat).length + zs.length = N) (hs : zs.length ≤ 500) (hmb : ∀ c ∈ zs, 0 ≤ c ∧ c ≤ 255)
    (hown : W.ownsRow base 5 1 (.slice (some ⟨g, 0, none⟩) N c) N ((vb 9 n.toNat).map (Value.int .u8) ++ zs.map (Value.int .u8))) :
    Calls Try.prog 13 #[.slice (some ⟨g, 0, none⟩) N c] W fun e w' => e = .returned (.tuple #[.int .u64 n, .int .i64 ((vb 9 n.toNat).length : Int), .int .i64 0]) ∧ W = w' := by
  have vl := vb_len_le 9 n.toNat
  have hl : (vb 9 n.toNat ++ zs).length = N := by simp; omega
  rw [← List.map_append] at hown
  have q := take_any g 0 N c (vb 9 n.toNat ++ zs) W hl (by omega) (own_cells hl hown) (getD_bd (fun c hc => by
    rcases List.mem_append.1 hc with h | h
    · exact vb_bd 9 n.toNat (by omega) c h
    · exact hmb c h))
  rw [tk_put n zs h0 h1] at q
  exact q

set_option maxHeartbeats 400000 in
theorem walk (a0 : Int) (a1 : Option Addr) (len1 cap1 : Nat) (z1 : List Int) (w : World) (w0 : (Lit.int .u64 a0).wf = true) (w1 : IsRow .u8 w a1 len1 cap1 z1) :
    Calls Try.prog 7 #[.int .u64 a0, .slice a1 len1 cap1] w fun e w' => e = .returned (.bool true) ∧ Below w.heap.size w w' := by
  have b0 := bounds_u64 w0
  obtain ⟨hlen, hzl, hzb, hrow⟩ := row_open w1
  generalize z1.take len1 = zs at hzl hzb hrow
  have hnone : a1 = none → cap1 = 0 := by
    intro h
    rcases w1 with h1 | ⟨x, h1, _⟩
    · exact h1.2.2.1
    · rw [h] at h1; simp at h1
  clear w1
  have hmb := mem_bd hzb
  clear hzb
  obtain ⟨i0, hi, hz0, hz1, hz2⟩ := info_parts Try.info5
  have vp := vb_pos 9 a0.toNat
  have vl := vb_len_le 9 a0.toNat
  by_cases hbig : 500 < len1
  · clear hrow
    go_enter Try.func7, Try.ntmps7
    go_wp2_with fail
    refine (awake_any _).mono ?_
    rintro e w1 ⟨rfl, hb⟩
    go_wp2
    go_ret
    exact ⟨rfl, hb⟩
  · cases a1 with
    | none =>
      have hz : len1 = 0 := by
        rcases Nat.eq_zero_or_pos len1 with h | h
        · exact h
        · obtain ⟨b, off, e, _⟩ := hrow h; simp at e
      have hcap : cap1 = 0 := hnone rfl
      subst hz hcap
      have hzs : zs = [] := List.eq_nil_of_length_eq_zero hzl
      subst hzs
      clear hrow hnone
      go_enter Try.func7, Try.ntmps7
      go_wp2_with fail
      refine (awake_any _).mono ?_
      rintro e w1 ⟨rfl, hb⟩
      go_wp2_with fail
      refine (put_any _ _ b0.1 b0.2).mono ?_
      rintro e w2 ⟨b, rfl, hown, hb2⟩
      have Q : Hid _ := take_put (zs := []) b0.1 b0.2 rfl (by simp) hmb (by simpa using hown)
      have HF : Hid (Below w.heap.size w w2) := hb.trans (hb2.mono hb.size)
      go_wp2_with (at_builtin; refine wpList_append_own_none rfl _ _ 24 rfl w1.heap.size 5 i0 1 Try.underlying24 hi _ _ _ rfl hown rfl ?_)
      clear hown
      refine Calls.mono Q.out ?_
      rintro e w' ⟨rfl, rfl⟩
      go_wp2_with fail
      refine (size_any _ _ b0.1 b0.2).mono ?_
      rintro e w' ⟨rfl, rfl⟩
      go_wp2
      go_ret
      exact ⟨rfl, HF.out⟩
    | some ad =>
      have hcells : Hid (∀ w2, Below w.heap.size w w2 → ∀ (j : Nat) (u : Value), (zs.map (Value.int .u8))[j]? = some u → w2.cell? (ad.add j) = some u) := by
        intro w2 hb j u hj
        rcases Nat.lt_or_ge j len1 with h | h
        · obtain ⟨b, off, e, hlt, hc⟩ := hrow (by omega)
          simp at e
          subst e
          have hp : (⟨b, off, none⟩ : Addr).add j = ⟨b, off + j, none⟩ := by unfold Addr.add; split <;> simp_all
          rw [hp, hb.cell hlt, hc j h]
          simp [List.getElem?_eq_getElem (show j < zs.length by omega), List.getD] at hj ⊢
          exact hj
        · simp [List.getElem?_eq_none (show zs.length ≤ j by omega)] at hj
      clear hrow hnone
      go_enter Try.func7, Try.ntmps7
      go_wp2_with fail
      refine (awake_any _).mono ?_
      rintro e w1 ⟨rfl, hb⟩
      go_wp2_with fail
      refine (put_any _ _ b0.1 b0.2).mono ?_
      rintro e w2 ⟨b, rfl, hown, hb2⟩
      have HF : Hid (Below w.heap.size w w2) := hb.trans (hb2.mono hb.size)
      have hs1 := hb.size
      have hs2 := hb2.size
      go_wp2_with (at_builtin; refine wpList_append_own _ rfl _ _ 24 rfl w1.heap.size 5 i0 (.int .u8 0) 1 1 Try.underlying24 hi hz0 hz1 hz2 rfl (by decide) _ _ _ rfl hown ad len1 cap1 (zs.map (Value.int .u8)) rfl (by simp [hzl]) (hcells.out w2 HF.out) (ints_one zs) (by unfold maxLen; omega) (by omega) (by omega) ?_; intro v' w3 hown' hgrow hnil; obtain ⟨g, c, rfl⟩ := owns_shape hown' (fun h => absurd (show Value.slice (some ⟨b, 0, none⟩) (vb 9 a0.toNat).length (vb 9 a0.toNat).length = Value.slice none 0 0 from (hnil.mp h).1) (by simp)); have HF3 : Hid (Below w.heap.size w w3) := HF.out.grown hgrow (by omega) (fun k hk => Nat.le_trans hs1 ((hown.lt k hk).1)); have Q : Hid _ := take_put b0.1 b0.2 (by omega) (by omega) hmb hown'; clear hown' hgrow hnil hown)
      refine Calls.mono Q.out ?_
      rintro e w' ⟨rfl, rfl⟩
      go_wp2_with fail
      refine (size_any _ _ b0.1 b0.2).mono ?_
      rintro e w' ⟨rfl, rfl⟩
      go_wp2
      go_ret
      exact ⟨rfl, HF3.out⟩

set_option maxRecDepth 100000 in
theorem lifted (os : Os) (started : os.Started) (H : Type) (enc : TypeId × Value → H) :
    ReturnsInHanded {} Try.checked os 7 .any (Rows.varintBackSpec.pre6 enc Try.prog Try.f7 Rows.varintBackRow.domain false) (Rows.varintBackSpec.post enc Try.prog Try.f7 false true false false) := by
  refine returnsInHanded_of_change (C := Try.checked) own started (by kernel_rfl) Try.func7
    (ChangeSpec.witness6 (enc := enc) (C := Try.checked) false ⟨#[], #[.int .u64 0, .slice none 0 0], []⟩ 8 (by kernel_rfl) (by kernel_rfl) (by kernel_rfl) (by kernel_rfl)) ?_
  intro W base args ds gs before hval0 hW hcnd _
  have hval : ∀ (j : Nat) t v, Try.f7.params[j]? = some t → args[j]? = some v → Value.okWide Try.prog W .any base t v := hval0
  have hW' := hW
  obtain ⟨p, q, hA0, hV, rfl, hfz, hnd⟩ := hW
  have hA : DataW.TrodAll enc Try.prog W 0 (fun _ => true) true Try.f7.params.toList args.toList ds p := hA0
  rw [Try.params7] at hA hval
  obtain ⟨v0, vs0, d0, ds0, p0, q0, hargs, rfl, rfl, h0, r0⟩ := trodAll_cons hA
  obtain ⟨v1, vs1, d1, ds1, p1, q1, rfl, rfl, rfl, h1, r1⟩ := trodAll_cons r0
  obtain ⟨rfl, rfl, rfl⟩ := trodAll_nil r1
  obtain rfl : args = #[v0, v1] := by cases args; simp_all
  obtain ⟨rfl, rfl⟩ := trodVars_none hV
  obtain ⟨a0, rfl, rfl, rfl, w0⟩ := open_int Try.underlying22 (hval 0 22 v0 rfl rfl) h0
  obtain ⟨a1, len1, cap1, rfl⟩ := okWide_slice Try.underlying24 (hval 1 24 v1 rfl rfl)
  have k1 := h1
  have lt1 : ∀ x ∈ p1, x.block < W.heap.size := by obtain ⟨m, hm⟩ := k1; exact DataW.trod_lt m _ _ _ hm
  obtain ⟨z1, w1⟩ : ∃ zs, IsRow .u8 W a1 len1 cap1 zs := by
    obtain ⟨fuel, hf⟩ := h1
    rcases open_ints Try.underlying24 Try.underlying5 (by kernel_rfl) hf with ⟨hcs, _⟩ | ⟨x, l, c, zs, hcs, _, hl, hm, hz, _, hcell, hwz⟩
    · simp [Value.cells] at hcs
      obtain ⟨rfl, rfl, rfl⟩ := hcs
      exact ⟨[], .inl ⟨rfl, rfl, rfl, rfl⟩⟩
    · simp [Value.cells] at hcs
      obtain ⟨rfl, rfl, rfl⟩ := hcs
      exact ⟨zs, .inr ⟨_, rfl, hl, hm, by simpa using hz, hcell, hwz⟩⟩
  clear hA0 hval0
  refine (walk a0 a1 len1 cap1 z1 W w0 w1).mono fun e W' ⟨he, bel⟩ => ?_
  subst he
  exact ⟨_, rfl, _, _, _, [], _, [], hW', trodAll_mk1 (shut_bool Try.underlying4 _), (trodAll_cons_mk (shut_int Try.underlying22 w0) (trodAll_cons_mk (Below.trod laidOut (by kernel_rfl) (of_decide_eq_true (by kernel_rfl)) k1 bel lt1) trodAll_mk0)), rfl, bel.frame _, fun h => by cases h⟩

theorem over : Rows.varintBackRow.holds Try.pinned (OpenSpec.ofChange Rows.varintBackSpec) :=
  OpenClaim.holds_of_wide 7 Try.f7 rfl rfl rfl rfl rfl rfl rfl ⟨rfl, rfl, rfl, rfl, rfl⟩ rfl rfl rfl rfl rfl (by kernel_rfl) Try.func7 (by kernel_rfl)
    (of_decide_eq_true (by kernel_rfl)) (by unfold Func.isWrapper; first | (rw [if_pos (by decide +kernel)]; kernel_rfl) | (rw [if_neg (by decide +kernel)]; exact ⟨rfl, rfl⟩))
    (fun os started H enc _ => lifted os started H enc)

end Go.Proofs.Ytnlamgljlcoibaa.varintBack
namespace Go.Proofs.Ytnlamgljlcoibaa
theorem varintBack_holds : Rows.VarintBackSaid := varintBack.over
#print axioms varintBack_holds
end Go.Proofs.Ytnlamgljlcoibaa
