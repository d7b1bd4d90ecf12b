/- VarintFixed, proved for every number, every size and every slice of bytes: Fixed and Unfixed answer what the document asks, and Unfixed of eight bytes of Fixed is the number again; no condition. -/
import Derived.Test.YtnlamgljlcoibaaRows
import Derived.WalkKit
import Derived.ProofKit
import Derived.OpenShut
import Derived.ShutString
import Derived.ChangeOld
import Derived.Below
import Derived.Test.YtnlamgljlcoibaaFixed
import Derived.Test.YtnlamgljlcoibaaRow
import Derived.Deep.RegionWith
import Derived.Laws.BytesArg
import Derived.Deep.QuietTactic
import Derived.BigQuiet
import Derived.WalkSmall
namespace Go.Proofs.Ytnlamgljlcoibaa.varintFixed
open Go.ChangeShapes Go.WideShapes Go.ChangeAt Go.RowKit
open Go.ChangeMaps (open_string shut_string)
set_option linter.unusedVariables false

theorem own : ownKnob Try.prog.godebug = none := by kernel_rfl
theorem laidOut : laidOutB Try.prog = true := by kernel_rfl

/-- WHAT THE WALK IS TOLD OF A SLICE OF INTEGERS THAT CAME IN: it is nil; or it leads to a row of 'cap' cells, the numbers 'zs' (the first 'len' are its elements, the rest its spare room), each fitting its kind. -/
def IsRow (k : IntKind) (w : World) (a : Option Addr) (len cap : Nat) (zs : List Int) : Prop :=
  (a = none ∧ len = 0 ∧ cap = 0 ∧ zs = []) ∨
  ∃ x, a = some x ∧ len ≤ cap ∧ cap ≤ maxLen ∧ zs.length = cap ∧ (∀ i, i < zs.length → w.cell? (x.add i) = some (.int k (zs.getD i 0))) ∧ ∀ n ∈ zs, (Lit.int k n).wf = true

theorem conv_own {W : World} {base b n c : Nat} {zs : List Int} (hn : zs.length = n) (h : W.ownsRow base 5 1 (.slice (some ⟨b, 0, none⟩) n c) n (zs.map (Value.int .u8))) :
    (convert 24 9 (.slice (some ⟨b, 0, none⟩) n c)).run Try.prog W = .ok (.string (strOfNums zs)) W := by
  refine run_convert_bytes_arg W 24 5 Try.underlying24 Try.underlying5 b 0 n c zs hn (fun i hi => ?_) 9 Try.underlying9
  have := h.cellAt i (by omega)
  rw [Nat.zero_add, this]
  simp [List.getElem?_eq_getElem (show i < zs.length by omega), List.getD]

/-- As 'conv_own', of a slice that may be nil. -/
theorem conv_any {W : World} {base n : Nat} {v : Value} {zs : List Int} (hn : zs.length = n) (h : W.ownsRow base 5 1 v n (zs.map (Value.int .u8))) :
    (convert 24 9 v).run Try.prog W = .ok (.string (strOfNums zs)) W := by
  rcases h.2 with ⟨rfl, h0⟩ | ⟨g, c, cur, rfl, _⟩
  · have hz : zs = [] := List.eq_nil_of_length_eq_zero (by omega)
    subst hz
    exact run_convert_bytes_nil W 24 5 Try.underlying24 Try.underlying5 0 0 9 Try.underlying9
  · exact conv_own hn h

theorem own_below {W W' : World} {base e sz n : Nat} {v : Value} {xs : List Value} (h : W.ownsRow base e sz v n xs) (hb : Below W.heap.size W W') : W'.ownsRow base e sz v n xs :=
  h.kept (row := none) ⟨hb.os, hb.tape, hb.output, hb.size, fun k hk _ => hb.block k hk⟩ (by cases hv : v.ownBlock <;> simp)

theorem own_cells {W : World} {base b n c : Nat} {zs : List Int} (hn : zs.length = n) (h : W.ownsRow base 5 1 (.slice (some ⟨b, 0, none⟩) n c) n (zs.map (Value.int .u8))) :
    ∀ i, i < n → W.cell? ⟨b, 0 + i, none⟩ = some (.int .u8 (zs.getD i 0)) := by
  intro i hi
  have := h.cellAt i (by omega)
  rw [Nat.zero_add, this]
  simp [List.getElem?_eq_getElem (show i < zs.length by omega), List.getD]

theorem getD_bd {l : List Int} (h : ∀ c ∈ l, 0 ≤ c ∧ c ≤ 255) (i : Nat) : 0 ≤ l.getD i 0 ∧ l.getD i 0 ≤ 255 := by
  rcases Nat.lt_or_ge i l.length with hl | hl
  · simp only [List.getD, List.getElem?_eq_getElem hl, Option.getD_some]
    exact h _ (List.getElem_mem hl)
  · simp [List.getD, List.getElem?_eq_none hl]

/-- Unfixed of the eight bytes of n, where they lie in a row of the call's own. -/
theorem unfix8 {W : World} {base b : Nat} {n : Int} (h0 : 0 ≤ n) (h1 : n ≤ 18446744073709551615) (h : W.ownsRow base 5 1 (.slice (some ⟨b, 0, none⟩) 8 8) 8 ((fx n.toNat 8).map (Value.int .u8))) :
    Calls Try.prog 21 #[.slice (some ⟨b, 0, none⟩) 8 8] W fun e w' => e = .returned (.int .u64 n) ∧ W = w' := by
  have q := unfixed_any b 0 8 8 (fx n.toNat 8) W (fx_len _ _) (by omega) (own_cells (fx_len _ _) h) (getD_bd (fx_bd _ _))
  rw [List.take_of_length_le (by rw [fx_len]; omega), uf_fx8 n h0 h1] at q
  exact q

/-- Unfixed and the document's own, of what came in: one number. -/
theorem both {W : World} {a : Option Addr} {len cap : Nat} {zs : List Int} (hl : zs.length = len) (hlen : (len : Int) ≤ 9223372036854775807) (hz : ∀ i, 0 ≤ zs.getD i 0 ∧ zs.getD i 0 ≤ 255)
    (hrow : 0 < len → ∃ b off, a = some ⟨b, off, none⟩ ∧ b < W.heap.size ∧ ∀ i, i < len → W.cell? ⟨b, off + i, none⟩ = some (.int .u8 (zs.getD i 0))) :
    ∃ u : Int, ∀ w', Below W.heap.size W w' → (Calls Try.prog 21 #[.slice a len cap] w' fun e w'' => e = .returned (.int .u64 u) ∧ w' = w'') ∧ Calls Try.prog 22 #[.slice a len cap] w' fun e w'' => e = .returned (.int .u64 u) ∧ w' = w'' := by
  by_cases h : len = 0
  · subst h
    exact ⟨0, fun w' _ => ⟨unfixed_none a cap w', runfixed_none a cap w'⟩⟩
  · obtain ⟨b, off, rfl, hb, hc⟩ := hrow (by omega)
    exact ⟨_, fun w' hw => ⟨unfixed_any b off len cap zs w' hl hlen (row_below hw hb hc) hz, runfixed_any b off len cap zs w' hl hlen (row_below hw hb hc) hz⟩⟩

theorem fixed8 (n : Int) (w : World) (h0 : 0 ≤ n) (h1 : n ≤ 18446744073709551615) :
    Calls Try.prog 19 #[.int .u64 n, .int .i64 8] w fun e w' => ∃ b, e = .returned (.slice (some ⟨b, 0, none⟩) 8 8) ∧
      w'.ownsRow w.heap.size 5 1 (.slice (some ⟨b, 0, none⟩) 8 8) 8 ((fx n.toNat 8).map (Value.int .u8)) ∧ Below w.heap.size w w' := by
  have q := fixed_any n 8 w h0 h1
  rw [show fsz 8 = 8 from by decide] at q
  exact q

theorem fin4 {w w1 w3 w4 : World} (hb : Below w.heap.size w w1) (hb3 : Below w1.drew.heap.size w1.drew w3) (hb4 : Below w3.heap.size w3 w4) : Below w.heap.size w w4 :=
  hb.drew.trans ((hb3.trans (hb4.mono hb3.size)).mono hb.drew.size)

set_option maxHeartbeats 4000000 in
theorem walk (a0 : Int) (a1 : Int) (a2 : Option Addr) (len2 cap2 : Nat) (z2 : List Int) (w : World) (w0 : (Lit.int .u64 a0).wf = true) (w1 : (Lit.int .i64 a1).wf = true) (w2 : IsRow .u8 w a2 len2 cap2 z2) :
    Calls Try.prog 6 #[.int .u64 a0, .int .i64 a1, .slice a2 len2 cap2] w fun e w' => e = .returned (.bool true) ∧ Below w.heap.size w w' := by
  have b0 := bounds_u64 w0
  have b1 := bounds_i64 w1
  obtain ⟨hlen, hzl, hzb, hrow⟩ := row_open w2
  generalize z2.take len2 = zs at hzl hzb hrow
  by_cases hbig : 500 < len2
  · clear hrow w2
    have hd : decide ((500 : Int) < (len2 : Int)) = true := by simp; omega
    go_enter Try.func6, Try.ntmps6
    go_wp2_with fail
    refine (awake_any _).mono ?_
    rintro e w1 ⟨rfl, hb⟩
    go_wp2_with fail
    go_quiet (fail)
    go_wp2
    go_ret
    exact ⟨rfl, below_drewN hb _⟩
  · obtain ⟨u, hu⟩ := both (a := a2) (cap := cap2) hzl hlen hzb hrow
    have HU : Hid _ := hu
    clear hu hrow w2
    have hd : decide ((500 : Int) < (len2 : Int)) = false := by simp; omega
    go_enter Try.func6, Try.ntmps6
    go_wp2_with fail
    refine (awake_any _).mono ?_
    rintro e w1 ⟨rfl, hb⟩
    go_wp2_with fail
    go_region_with (first
      | (go_at_call_of 19 (Value.int IntKind.i64 a1); refine (fixed_any _ _ _ b0.1 b0.2).mono ?_; rintro e w3 ⟨b3, rfl, hown3, hb3⟩; have hx3 := conv_own (fx_len _ _) hown3)
      | (go_at_call 20; refine (rfixed_any _ _ _ b0.1 b0.2 b1.1 b1.2).mono ?_; rintro e w4 ⟨v4, rfl, hown4, hb4⟩; have hx4 := conv_any (fx_len _ _) hown4; have hx5 := conv_own (fx_len _ _) (own_below hown3 hb4))
      | (go_at_call_of 21 (Value.slice a2 len2 cap2); refine Calls.mono (HU.out _ (fin4 hb hb3 hb4)).1 ?_; rintro e w' ⟨rfl, rfl⟩)
      | (go_at_call 22; refine Calls.mono (HU.out _ (fin4 hb hb3 hb4)).2 ?_; rintro e w' ⟨rfl, rfl⟩)
      | (go_at_call_of 19 (Value.int IntKind.i64 8); refine (fixed8 _ _ b0.1 b0.2).mono ?_; rintro e w5 ⟨b5, rfl, hown5, hb5⟩)
      | (go_at_call 21; refine (unfix8 b0.1 b0.2 hown5).mono ?_; rintro e w' ⟨rfl, rfl⟩))
    all_goals
      go_wp2
      go_ret
      exact ⟨rfl, (fin4 hb hb3 hb4).trans (hb5.mono (fin4 hb hb3 hb4).size)⟩

set_option maxRecDepth 100000 in
theorem lifted (os : Os) (started : os.Started) (H : Type) (enc : TypeId × Value → H) :
    ReturnsInHanded {} Try.checked os 6 .any (Rows.varintFixedSpec.pre6 enc Try.prog Try.f6 Rows.varintFixedRow.domain false) (Rows.varintFixedSpec.post enc Try.prog Try.f6 false true false false) := by
  refine returnsInHanded_of_change (C := Try.checked) own started (by kernel_rfl) Try.func6
    (ChangeSpec.witness6 (enc := enc) (C := Try.checked) false ⟨#[], #[.int .u64 0, .int .i64 0, .slice none 0 0], []⟩ 8 (by kernel_rfl) (by kernel_rfl) (by kernel_rfl) (by kernel_rfl)) ?_
  intro W base args ds gs before hval0 hW hcnd _
  have hval : ∀ (j : Nat) t v, Try.f6.params[j]? = some t → args[j]? = some v → Value.okWide Try.prog W .any base t v := hval0
  have hW' := hW
  obtain ⟨p, q, hA0, hV, rfl, hfz, hnd⟩ := hW
  have hA : DataW.TrodAll enc Try.prog W 0 (fun _ => true) true Try.f6.params.toList args.toList ds p := hA0
  rw [Try.params6] at hA hval
  obtain ⟨v0, vs0, d0, ds0, p0, q0, hargs, rfl, rfl, h0, r0⟩ := trodAll_cons hA
  obtain ⟨v1, vs1, d1, ds1, p1, q1, rfl, rfl, rfl, h1, r1⟩ := trodAll_cons r0
  obtain ⟨v2, vs2, d2, ds2, p2, q2, rfl, rfl, rfl, h2, r2⟩ := trodAll_cons r1
  obtain ⟨rfl, rfl, rfl⟩ := trodAll_nil r2
  obtain rfl : args = #[v0, v1, v2] := by cases args; simp_all
  obtain ⟨rfl, rfl⟩ := trodVars_none hV
  obtain ⟨a0, rfl, rfl, rfl, w0⟩ := open_int Try.underlying22 (hval 0 22 v0 rfl rfl) h0
  obtain ⟨a1, rfl, rfl, rfl, w1⟩ := open_int Try.underlying3 (hval 1 3 v1 rfl rfl) h1
  obtain ⟨a2, len2, cap2, rfl⟩ := okWide_slice Try.underlying24 (hval 2 24 v2 rfl rfl)
  have k2 := h2
  have lt2 : ∀ x ∈ p2, x.block < W.heap.size := by obtain ⟨m, hm⟩ := k2; exact DataW.trod_lt m _ _ _ hm
  obtain ⟨z2, w2⟩ : ∃ zs, IsRow .u8 W a2 len2 cap2 zs := by
    obtain ⟨fuel, hf⟩ := h2
    rcases open_ints Try.underlying24 Try.underlying5 (by kernel_rfl) hf with ⟨hcs, _⟩ | ⟨x, l, c, zs, hcs, _, hl, hm, hz, _, hcell, hwz⟩
    · simp [Value.cells] at hcs
      obtain ⟨rfl, rfl, rfl⟩ := hcs
      exact ⟨[], .inl ⟨rfl, rfl, rfl, rfl⟩⟩
    · simp [Value.cells] at hcs
      obtain ⟨rfl, rfl, rfl⟩ := hcs
      exact ⟨zs, .inr ⟨_, rfl, hl, hm, by simpa using hz, hcell, hwz⟩⟩
  clear hA0 hval0
  refine (walk a0 a1 a2 len2 cap2 z2 W w0 w1 w2).mono fun e W' ⟨he, bel⟩ => ?_
  subst he
  exact ⟨_, rfl, _, _, _, [], _, [], hW', trodAll_mk1 (shut_bool Try.underlying4 _), (trodAll_cons_mk (shut_int Try.underlying22 w0) (trodAll_cons_mk (shut_int Try.underlying3 w1) (trodAll_cons_mk (Below.trod laidOut (by kernel_rfl) (of_decide_eq_true (by kernel_rfl)) k2 bel lt2) trodAll_mk0))), rfl, bel.frame _, fun h => by cases h⟩

theorem over : Rows.varintFixedRow.holds Try.pinned (OpenSpec.ofChange Rows.varintFixedSpec) :=
  OpenClaim.holds_of_wide 6 Try.f6 rfl rfl rfl rfl rfl rfl rfl ⟨rfl, rfl, rfl, rfl, rfl⟩ rfl rfl rfl rfl rfl (by kernel_rfl) Try.func6 (by kernel_rfl)
    (of_decide_eq_true (by kernel_rfl)) (by unfold Func.isWrapper; first | (rw [if_pos (by decide +kernel)]; kernel_rfl) | (rw [if_neg (by decide +kernel)]; exact ⟨rfl, rfl⟩))
    (fun os started H enc _ => lifted os started H enc)

end Go.Proofs.Ytnlamgljlcoibaa.varintFixed
namespace Go.Proofs.Ytnlamgljlcoibaa
theorem varintFixed_holds : Rows.VarintFixedSaid := varintFixed.over
#print axioms varintFixed_holds
end Go.Proofs.Ytnlamgljlcoibaa
