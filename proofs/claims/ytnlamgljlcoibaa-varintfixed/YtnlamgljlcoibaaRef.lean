/- The contract of the document's own answer for a number as bytes (the reference's Varint), over the turned text. -/
import Derived.Test.YtnlamgljlcoibaaWalks
namespace Go.Proofs.Ytnlamgljlcoibaa
open Go.RowKit

theorem vb_step (f : Nat) (x : Int) (h : 128 ≤ x) : vb (f + 1) x.toNat = (x % 128 + 128) :: vb f (x / 128).toNat := by
  rw [vb, if_neg (by omega)]
  have e : (x / 128).toNat = x.toNat / 128 := by omega
  have e2 : ((x.toNat % 128 + 128 : Nat) : Int) = x % 128 + 128 := by omega
  rw [e, e2]
theorem vb_stop (f : Nat) (x : Int) (h0 : 0 ≤ x) (h : x < 128) : vb f x.toNat = [x] := by
  have e : ((x.toNat : Nat) : Int) = x := by omega
  cases f with
  | zero => rw [vb, e]
  | succ f => rw [vb, if_pos (by omega), e]

theorem one_new (w : World) (v : Value) (e : TypeId) : ∀ (j : Nat) (u : Value), [v][j]? = some u → (w.alloc (.cells #[v] e)).cell? (({ block := w.heap.size, off := 0 } : Addr).add j) = some u := by
  intro j u hj
  match j, hj with
  | 0, hj => simp at hj; subst hj; simp [Addr.add]
theorem one_cell (k : IntKind) (n : Int) : ∀ u, u ∈ [Value.int k n] → u.oneCell' = true := by
  intro u hu; simp at hu; subst hu; rfl

theorem owns_shape {w : World} {base : Nat} {e : TypeId} {size n : Nat} {v : Value} {xs : List Value} (h : w.ownsRow base e size v n xs) (hv : ¬ v = .slice none 0 0) : ∃ g c, v = .slice (some ⟨g, 0, none⟩) n c := by
  rcases h.2 with ⟨rfl, _⟩ | ⟨g, c, _, rfl, _⟩
  · exact absurd rfl hv
  · exact ⟨g, c, rfl⟩

set_option maxHeartbeats 400000 in
theorem rput_any (n : Int) (w : World) (h0 : 0 ≤ n) (h1 : n ≤ 18446744073709551615) :
    Calls Try.prog 11 #[.int .u64 n] w fun e w' => ∃ b c, e = .returned (.slice (some ⟨b, 0, none⟩) (vb 9 n.toNat).length c) ∧
      w'.ownsRow w.heap.size 5 1 (.slice (some ⟨b, 0, none⟩) (vb 9 n.toNat).length c) (vb 9 n.toNat).length ((vb 9 n.toNat).map (Value.int .u8)) ∧ Below w.heap.size w w' := by
  obtain ⟨i0, hi, hz0, hz1, hz2⟩ := info_parts Try.info5
  have l2 := vb_len_le 9 n.toNat
  go_enter Try.func11, Try.ntmps11
  go_wp2
  go_loopw [0, 3] (fun a v wr => ∃ (f : Nat) (x : Int) (pre : List Int), a = .int .u64 x ∧ Hid (x.toNat < 128 ^ (f + 1)) ∧ 0 ≤ x ∧ x ≤ 18446744073709551615 ∧ Hid (pre ++ vb f x.toNat = vb 9 n.toNat) ∧ wr.ownsRow w.heap.size 5 1 v pre.length (pre.map (Value.int .u8)) ∧ Below w.heap.size w wr)
    (fun a _ _ => (intOf a).toNat)
  case atStart => exact ⟨9, n, [], rfl, (by show n.toNat < 128 ^ (9 + 1); omega), h0, h1, rfl, World.ownsRow_nil _ _ _ _, Below.refl _ _⟩
  case round =>
    obtain ⟨f, x, pre, rfl, Hm, x0, x1, HP, hown, hb⟩ := hrel
    have hlen : pre.length ≤ 10 := by have e := congrArg List.length HP.out; simp at e; omega
    have hbs := hb.size
    by_cases hge : 128 ≤ x
    · obtain ⟨f', rfl⟩ : ∃ f', f = f' + 1 := ⟨f - 1, by cases f with
        | zero => have := Hm.out; simp at this; omega
        | succ f => rfl⟩
      go_wp2_with (at_builtin; refine wpList_append_own _ rfl _ _ 24 rfl w.heap.size 5 i0 (.int .u8 0) 1 1 Try.underlying24 hi hz0 hz1 hz2 rfl (by decide) _ _ _ rfl (hown.alloc _) ⟨wr.heap.size, 0, none⟩ 1 1 [.int .u8 (x % 128 + 128)] rfl rfl (one_new _ _ _) (one_cell _ _) (by unfold maxLen; omega) (by omega) (by simp; omega) ?_; intro v' w1 hown' hgrow _)
      have hb' : Below w.heap.size w w1 := (hb.alloc hbs _).grown hgrow (by simp; omega) (fun k hk => (hown.lt k hk).1)
      clear hgrow hown
      go_wp2
      go_roundw
      case rel =>
        refine ⟨f', x / 128, pre ++ [x % 128 + 128], rfl, ?_, by omega, by omega, ?_, ?_, hb'⟩
        · have := Hm.out
          show (x / 128).toNat < 128 ^ (f' + 1)
          rw [Nat.pow_succ] at this
          omega
        · show pre ++ [x % 128 + 128] ++ vb f' (x / 128).toNat = vb 9 n.toNat
          rw [← HP.out, vb_step f' x hge]
          simp
        · simpa using hown'
      case measure => simp [intOf]; omega
    · go_wp2_with (at_builtin; refine wpList_append_own _ rfl _ _ 24 rfl w.heap.size 5 i0 (.int .u8 0) 1 1 Try.underlying24 hi hz0 hz1 hz2 rfl (by decide) _ _ _ rfl (hown.alloc _) ⟨wr.heap.size, 0, none⟩ 1 1 [.int .u8 x] rfl rfl (one_new _ _ _) (one_cell _ _) (by unfold maxLen; omega) (by omega) (by simp; omega) ?_; intro v' w1 hown' hgrow hnil; have hb' : Below w.heap.size w w1 := (hb.alloc hbs _).grown hgrow (by simp; omega) (fun k hk => (hown.lt k hk).1); have he : pre ++ [x] = vb 9 n.toNat := (by rw [← HP.out, vb_stop f x x0 (by omega)]); have hl : pre.length + 1 = (vb 9 n.toNat).length := (by rw [← he]; simp); have hm : (pre.map (Value.int .u8) ++ [Value.int .u8 x]) = (vb 9 n.toNat).map (Value.int .u8) := (by rw [← he]; simp); rw [hl, hm] at hown'; obtain ⟨g, c, rfl⟩ := owns_shape hown' (fun h => absurd (hnil.mp h).2 (by decide)); clear hgrow hown he hl hm)
      go_ret
      exact ⟨g, c, rfl, hown', hb'⟩

end Go.Proofs.Ytnlamgljlcoibaa
