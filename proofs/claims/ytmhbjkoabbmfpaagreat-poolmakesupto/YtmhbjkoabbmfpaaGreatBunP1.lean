/- Put together by a program out of these texts of mine: UMath, NMath, Bas, QRef, QEsc, QTak, LRef2, QNum, NRef2, NStr, NPa, NSh, NPe, HMath, HOrd, HMem, JMap. -/
import Derived.WalkKit
import Derived.Test.YtmhbjkoabbmfpaaGreatRows
import Derived.WalkMore
import Derived.ScopeJumps
import Derived.OpenShut
import Derived.ProofKit
import Derived.Laws.BytesArg
import Derived.Deep.QuietTactic
import Derived.BigQuiet
import Derived.WalkSmall
import Derived.SliceStrings
import Derived.Lib.OthersKept
import Derived.Shelf.Small.Wraps
import Derived.Shelf.LaysM
import Derived.Shelf.Strconv.Clone
import Derived.Shelf.Strings.LastIndex
import Derived.Shelf.Strings.Prefix
import Derived.Shelf.Slices.Turned
import Derived.Test.YtmhbjkoabbmfpaaGreatProg
import Derived.Deep.RegionWith
import Derived.Maps.AppendAt
import Derived.Maps.Own

namespace Go.Proofs.YtmhbjkoabbmfpaaGreat

def cont (c : Int) : Prop := 128 ≤ c ∧ c < 192
def un2 (a b : Int) : Int := (a - 192) * 64 + b - 128
def un3 (a b c : Int) : Int := ((a - 224) * 64 + b - 128) * 64 + c - 128
def un4 (a b c d : Int) : Int := (((a - 240) * 64 + b - 128) * 64 + c - 128) * 64 + d - 128
def fit1 (len a : Int) : Prop := 1 ≤ len ∧ a < 128
def fit2 (len a b : Int) : Prop := 2 ≤ len ∧ 194 ≤ a ∧ a < 224 ∧ cont b
def fit3 (len a b c : Int) : Prop := 3 ≤ len ∧ 224 ≤ a ∧ a < 240 ∧ cont b ∧ cont c ∧ 2048 ≤ un3 a b c ∧ (un3 a b c < 55296 ∨ 57343 < un3 a b c)
def fit4 (len a b c d : Int) : Prop := 4 ≤ len ∧ 240 ≤ a ∧ a < 248 ∧ cont b ∧ cont c ∧ cont d ∧ 65536 ≤ un4 a b c d ∧ un4 a b c d ≤ 1114111

instance (len a : Int) : Decidable (fit1 len a) := by unfold fit1; infer_instance
instance (c : Int) : Decidable (cont c) := by unfold cont; infer_instance
instance (len a b : Int) : Decidable (fit2 len a b) := by unfold fit2; infer_instance
instance (len a b c : Int) : Decidable (fit3 len a b c) := by unfold fit3; infer_instance
instance (len a b c d : Int) : Decidable (fit4 len a b c d) := by unfold fit4; infer_instance

end Go.Proofs.YtmhbjkoabbmfpaaGreat

namespace Go.Proofs.YtmhbjkoabbmfpaaGreat
set_option linter.unusedSimpArgs false
set_option linter.unusedVariables false

def njoin (a b : List Int) : List Int := if a = [] then b else a ++ [46] ++ b

def nlast (s : List Int) : Nat → Nat
  | 0 => 0
  | k + 1 => if s.getD k 0 = 46 then k + 1 else nlast s k

theorem nlast_le (s : List Int) : ∀ k, nlast s k ≤ k
  | 0 => Nat.le_refl _
  | k + 1 => by
    unfold nlast
    split
    · exact Nat.le_refl _
    · have := nlast_le s k; omega

def nparent (s : List Int) : List Int × List Int :=
  if nlast s s.length = 0 then ([], s) else (s.take (nlast s s.length - 1), s.drop (nlast s s.length))

end Go.Proofs.YtmhbjkoabbmfpaaGreat

namespace Go.Proofs.YtmhbjkoabbmfpaaGreat
open Go.RowKit

theorem Tryz.info5 : (Tryz.prog.info? 5).map (fun i => (i.zero, i.size, i.bytes)) = some (some (.int .u8 0), 1, 1) := by kernel_rfl

theorem one_new (w : World) (v : Value) (e : TypeId) : ∀ (j : Nat) (u : Value), [v][j]? = some u → (w.alloc (.cells #[v] e)).cell? (({ block := w.heap.size, off := 0 } : Addr).add j) = some u := by
  intro j u hj
  match j, hj with
  | 0, hj => simp at hj; subst hj; simp [Addr.add]
theorem one_cell (k : IntKind) (n : Int) : ∀ u, u ∈ [Value.int k n] → u.oneCell' = true := by
  intro u hu; simp at hu; subst hu; rfl

theorem row_open {w : World} {a : Option Addr} {len cap : Nat} {zs : List Int}
    (h : (a = none ∧ len = 0 ∧ cap = 0 ∧ zs = []) ∨ ∃ x, a = some x ∧ len ≤ cap ∧ cap ≤ maxLen ∧ zs.length = cap ∧ (∀ i, i < zs.length → w.cell? (x.add i) = some (.int .u8 (zs.getD i 0))) ∧ ∀ n ∈ zs, (Lit.int .u8 n).wf = true) :
    (len : Int) ≤ 9223372036854775807 ∧ (zs.take len).length = len ∧ (∀ i, 0 ≤ (zs.take len).getD i 0 ∧ (zs.take len).getD i 0 ≤ 255) ∧
      (0 < len → ∃ b off, a = some ⟨b, off, none⟩ ∧ b < w.heap.size ∧ ∀ i, i < len → w.cell? ⟨b, off + i, none⟩ = some (.int .u8 ((zs.take len).getD i 0))) := by
  rcases h with ⟨rfl, rfl, rfl, rfl⟩ | ⟨x, rfl, hl, hm, hz, hcell, hwz⟩
  · exact ⟨by omega, rfl, fun i => by simp, fun h => absurd h (by omega)⟩
  · refine ⟨by unfold maxLen at hm; omega, by simp; omega, ?_, ?_⟩
    · intro i
      rcases Nat.lt_or_ge i (zs.take len).length with h | h
      · have hm := List.getElem_mem h
        have := bounds_u8 (hwz _ (List.mem_of_mem_take hm))
        simp only [List.getD, List.getElem?_eq_getElem h, Option.getD_some]
        omega
      · simp [List.getD, List.getElem?_eq_none h]
    · intro h0
      obtain ⟨b, off, spot⟩ := x
      have hc := hcell 0 (by omega)
      have hspot : spot = none := by simpa [Addr.add] using World.cell?_spot hc
      subst hspot
      refine ⟨b, off, rfl, ?_, ?_⟩
      · rcases Nat.lt_or_ge b w.heap.size with h | h
        · exact h
        · simp [World.cell?, Addr.add, Array.getElem?_eq_none h] at hc
      · intro i hi
        have := hcell i (by omega)
        have hp : (⟨b, off, none⟩ : Addr).add i = ⟨b, off + i, none⟩ := by unfold Addr.add; split <;> simp_all
        rw [hp] at this
        rw [this]
        simp [List.getD, hi]

def Bs (w : World) (a : Option Addr) (len cap : Nat) (zs : List Int) : Prop :=
  zs.length = len ∧ (len : Int) ≤ 9223372036854775807 ∧ (∀ i, 0 ≤ zs.getD i 0 ∧ zs.getD i 0 ≤ 255) ∧ len ≤ cap ∧ (a = none → cap = 0) ∧
    (0 < len → ∃ b off, a = some ⟨b, off, none⟩ ∧ b < w.heap.size ∧ ∀ i, i < len → w.cell? ⟨b, off + i, none⟩ = some (.int .u8 (zs.getD i 0)))

theorem Bs.below {w w' : World} {a : Option Addr} {len cap : Nat} {zs : List Int} (h : Bs w a len cap zs) {B : Nat} (hb : Below B w w') (hB : w.heap.size ≤ B) : Bs w' a len cap zs := by
  obtain ⟨h1, h2, h3, h4, h5, h6⟩ := h
  refine ⟨h1, h2, h3, h4, h5, fun hp => ?_⟩
  obtain ⟨b, off, rfl, hlt, hc⟩ := h6 hp
  exact ⟨b, off, rfl, Nat.lt_of_lt_of_le hlt hb.size, fun i hi => (hb.cell (show b < B by omega)).trans (hc i hi)⟩

theorem Bs.of_row {w : World} {a : Option Addr} {len cap : Nat} {zs : List Int}
    (h : (a = none ∧ len = 0 ∧ cap = 0 ∧ zs = []) ∨ ∃ x, a = some x ∧ len ≤ cap ∧ cap ≤ maxLen ∧ zs.length = cap ∧ (∀ i, i < zs.length → w.cell? (x.add i) = some (.int .u8 (zs.getD i 0))) ∧ ∀ n ∈ zs, (Lit.int .u8 n).wf = true) :
    Bs w a len cap (zs.take len) := by
  obtain ⟨h1, h2, h3, h4⟩ := row_open h
  refine ⟨h2, h1, h3, ?_, ?_, h4⟩
  · rcases h with ⟨_, rfl, _, _⟩ | ⟨x, _, hl, _⟩
    · exact Nat.zero_le _
    · exact hl
  · intro hn
    rcases h with ⟨_, _, rfl, _⟩ | ⟨x, hx, _⟩
    · rfl
    · rw [hn] at hx; simp at hx

theorem getD_bd {l : List Int} (h : ∀ c ∈ l, 0 ≤ c ∧ c ≤ 255) (i : Nat) : 0 ≤ l.getD i 0 ∧ l.getD i 0 ≤ 255 := by
  rcases Nat.lt_or_ge i l.length with hl | hl
  · simp only [List.getD, List.getElem?_eq_getElem hl, Option.getD_some]
    exact h _ (List.getElem_mem hl)
  · simp [List.getD, List.getElem?_eq_none hl]

theorem mem_bd {l : List Int} (h : ∀ i, 0 ≤ l.getD i 0 ∧ l.getD i 0 ≤ 255) : ∀ c ∈ l, 0 ≤ c ∧ c ≤ 255 := by
  intro c hc
  obtain ⟨i, hi, rfl⟩ := List.getElem_of_mem hc
  have := h i
  simpa [List.getD, List.getElem?_eq_getElem hi] using this

theorem ints_one (l : List Int) : ∀ u, u ∈ l.map (Value.int .u8) → u.oneCell' = true := by
  intro u hu
  obtain ⟨n, _, rfl⟩ := List.mem_map.1 hu
  rfl

theorem own_below {W W' : World} {base e sz n : Nat} {v : Value} {xs : List Value} (h : W.ownsRow base e sz v n xs) (hb : Below W.heap.size W W') : W'.ownsRow base e sz v n xs :=
  h.kept (row := none) ⟨hb.os, hb.tape, hb.output, hb.size, fun k hk _ => hb.block k hk⟩ (by cases hv : v.ownBlock <;> simp)

theorem own_base {W : World} {base base' e sz n : Nat} {v : Value} {xs : List Value} (h : W.ownsRow base e sz v n xs) (hb : base' ≤ base) : W.ownsRow base' e sz v n xs := by
  refine ⟨h.1, ?_⟩
  rcases h.2 with h | ⟨g, c, cur, h1, h2, h3⟩
  · exact .inl h
  · exact .inr ⟨g, c, cur, h1, Nat.le_trans hb h2, h3⟩

theorem own_slice {w : World} {base : Nat} {e : TypeId} {size n : Nat} {v : Value} {xs : List Value} (h : w.ownsRow base e size v n xs) : ∃ a c, v = .slice a n c := by
  rcases h.2 with ⟨rfl, rfl⟩ | ⟨g, c, cur, rfl, _⟩
  · exact ⟨none, 0, rfl⟩
  · exact ⟨some ⟨g, 0, none⟩, c, rfl⟩

theorem run_append_bs {w : World} {base n : Nat} {v : Value} {xs : List Value} {a : Option Addr} {len cap : Nat} {zs : List Int} (ty : TypeId)
    (hown : w.ownsRow base 5 1 v n xs) (hbs : Bs w a len cap zs) (hn : n + len ≤ 140737488355328) (hbase : base ≤ w.heap.size) :
    ∃ v' w', (Builtin.append_ #[38, 38] ty #[v, .slice a len cap]).run Tryz.prog w = .ok v' w' ∧ w'.ownsRow base 5 1 v' (n + len) (xs ++ zs.map (Value.int .u8)) ∧ w.grownBy w' v.ownBlock := by
  obtain ⟨i0, hi, hz0, hz1, hz2⟩ := info_parts Tryz.info5
  obtain ⟨h1, h2, h3, h4, h5, h6⟩ := hbs
  cases a with
  | none =>
    have hc := h5 rfl
    have hl : len = 0 := by omega
    subst hc hl
    have hz : zs = [] := List.eq_nil_of_length_eq_zero h1
    subst hz
    refine ⟨v, w, run_append_owned_none w base 38 ty 5 i0 1 Tryz.underlying38 hi v n xs hown, by simpa using hown, ⟨rfl, rfl, rfl, Nat.le_refl _, fun _ _ _ => rfl⟩⟩
  | some ad =>
    obtain ⟨v', w', hr, ho, hg, _⟩ := run_append_own (P := Tryz.prog) w base 38 ty 5 i0 (.int .u8 0) 1 1 Tryz.underlying38 hi hz0 hz1 hz2 rfl (by decide) v n xs hown ad len cap (zs.map (Value.int .u8)) (by simp [h1])
      (fun j u hj => by
        rcases Nat.lt_or_ge j len with h | h
        · obtain ⟨b, off, e, _, hc⟩ := h6 (by omega)
          simp at e
          subst e
          have hp : (⟨b, off, none⟩ : Addr).add j = ⟨b, off + j, none⟩ := by unfold Addr.add; split <;> simp_all
          rw [hp, hc j h]
          simp [List.getElem?_eq_getElem (show j < zs.length by omega), List.getD] at hj ⊢
          exact hj
        · simp [List.getElem?_eq_none (show zs.length ≤ j by omega)] at hj)
      (ints_one zs) (by unfold maxLen; omega) (by omega) hbase
    exact ⟨v', w', hr, ho, hg⟩

theorem wp_append_bs {w : World} {o : Oper} {f : Act} {K : Act → World → Prop} {Q : Exit → Act → World → Prop} (s x : Operand)
    (ho : o.op = .call { callee := .builtin .append, args := #[s, x], argTypes := #[38, 38] }) (base : Nat) (v : Value) (n : Nat) (xs : List Value) (a : Option Addr) (len cap : Nat) (zs : List Int)
    (hs : f.eval s = v) (hx : f.eval x = .slice a len cap) (hown : w.ownsRow base 5 1 v n xs) (hbs : Bs w a len cap zs) (hn : n + len ≤ 140737488355328) (hbase : base ≤ w.heap.size)
    (h : ∀ v' w', w'.ownsRow base 5 1 v' (n + len) (xs ++ zs.map (Value.int .u8)) → w.grownBy w' v.ownBlock → K (f.put o.dst v') w') : o.wp Tryz.prog f w K Q := by
  obtain ⟨v', w', hrun, h1, h2⟩ := run_append_bs (ty := o.type) hown hbs hn hbase
  unfold Oper.wp
  simp [execOp, ho, resolve, invoke, builtin, hs, hx, hrun, Result.andThen]
  exact h v' w' h1 h2

theorem wpList_append_bs {w : World} {ops : Array Oper} {rest : List Oper} {o : Oper} {f : Act} {Q : Exit → Act → World → Prop} (hgd : o.guard = none) (s x : Operand)
    (ho : o.op = .call { callee := .builtin .append, args := #[s, x], argTypes := #[38, 38] }) (base : Nat) (v : Value) (n : Nat) (xs : List Value) (a : Option Addr) (len cap : Nat) (zs : List Int)
    (hs : f.eval s = v) (hx : f.eval x = .slice a len cap) (hown : w.ownsRow base 5 1 v n xs) (hbs : Bs w a len cap zs) (hn : n + len ≤ 140737488355328) (hbase : base ≤ w.heap.size)
    (h : ∀ v' w', w'.ownsRow base 5 1 v' (n + len) (xs ++ zs.map (Value.int .u8)) → w.grownBy w' v.ownBlock → wpList Tryz.prog ops Q rest (f.put o.dst v') w') : wpList Tryz.prog ops Q (o :: rest) f w := by
  refine wpList_plain hgd fun K hK => ?_
  exact wp_append_bs s x ho base v n xs a len cap zs hs hx hown hbs hn hbase (fun v' w' h1 h2 => hK _ _ (h v' w' h1 h2))

open Go.ChangeShapes Go.WideShapes Go.ChangeAt
theorem bs_open {H : Type} {enc : TypeId × Value → H} {W : World} {a : Option Addr} {len cap fuel : Nat} {x : DataW H × List MemPlace}
    (hf : DataW.trod enc Tryz.prog W 0 (fun _ => true) true fuel 38 [.slice a len cap] = some x) : ∃ zs, Bs W a len cap zs := by
  rcases open_ints Tryz.underlying38 Tryz.underlying5 (by kernel_rfl) hf with ⟨hcs, _⟩ | ⟨y, l, c, zs, hcs, _, hl, hm, hz, _, hcell, hwz⟩
  · simp at hcs
    obtain ⟨rfl, rfl, rfl⟩ := hcs
    exact ⟨_, Bs.of_row (zs := []) (.inl ⟨rfl, rfl, rfl, rfl⟩)⟩
  · simp at hcs
    obtain ⟨rfl, rfl, rfl⟩ := hcs
    exact ⟨_, Bs.of_row (zs := zs) (.inr ⟨_, rfl, hl, hm, by simpa using hz, hcell, hwz⟩)⟩

theorem u8_inj {a b : Int} (ha : 0 ≤ a ∧ a ≤ 255) (hb : 0 ≤ b ∧ b ≤ 255) (h : UInt8.ofNat a.toNat = UInt8.ofNat b.toNat) : a = b := by
  have e := congrArg UInt8.toNat h
  simp only [UInt8.toNat_ofNat'] at e
  omega

theorem u8s_inj : ∀ (a b : List Int), (∀ c ∈ a, 0 ≤ c ∧ c ≤ 255) → (∀ c ∈ b, 0 ≤ c ∧ c ≤ 255) → (a.map fun n => UInt8.ofNat n.toNat) = (b.map fun n => UInt8.ofNat n.toNat) → a = b
  | [], [], _, _, _ => rfl
  | [], y :: b, _, _, h => by simp at h
  | x :: a, [], _, _, h => by simp at h
  | x :: a, y :: b, ha, hb, h => by
    simp only [List.map_cons, List.cons.injEq] at h
    rw [u8_inj (ha x (by simp)) (hb y (by simp)) h.1, u8s_inj a b (fun c hc => ha c (by simp [hc])) (fun c hc => hb c (by simp [hc])) h.2]

theorem str_eq {z1 z2 : List Int} (h1 : ∀ c ∈ z1, 0 ≤ c ∧ c ≤ 255) (h2 : ∀ c ∈ z2, 0 ≤ c ∧ c ≤ 255) : ((strOfNums z1).toList == (strOfNums z2).toList) = (z1 == z2) := by
  rw [ByteArray.toList_eq, ByteArray.toList_eq, strOfNums_data, strOfNums_data, Bool.eq_iff_iff]
  simp only [beq_iff_eq]
  exact ⟨u8s_inj z1 z2 h1 h2, fun h => by rw [h]⟩

end Go.Proofs.YtmhbjkoabbmfpaaGreat

namespace Go.Proofs.YtmhbjkoabbmfpaaGreat
open Go.RowKit

theorem str_at (zs : List Int) (hz : ∀ i, 0 ≤ zs.getD i 0 ∧ zs.getD i 0 ≤ 255) (k : Nat) (h : k < (strOfNums zs).size) : (((strOfNums zs)[k]'h).toNat : Int) = zs.getD k 0 := by
  have hk : k < zs.length := by rw [strOfNums_size] at h; exact h
  have := hz k
  show ((((zs.map fun n => UInt8.ofNat n.toNat).toArray)[k]'(by simpa using hk)).toNat : Int) = _
  simp only [List.getElem_toArray, List.getElem_map]
  simp only [List.getD, List.getElem?_eq_getElem hk, Option.getD_some] at this ⊢
  simp
  omega

end Go.Proofs.YtmhbjkoabbmfpaaGreat

namespace Go.Proofs.YtmhbjkoabbmfpaaGreat
open Go.RowKit
set_option linter.unusedVariables false

theorem str_list (zs : List Int) : (strOfNums zs).toList = zs.map fun n => UInt8.ofNat n.toNat := by rw [ByteArray.toList_eq]; rfl

theorem str_ne (c : Int) (r : List Int) : ((strOfNums (c :: r)).toList == []) = false := by rw [str_list]; rfl

theorem str_cut (zs : List Int) (a b : Nat) : (strOfNums zs).extract a b = strOfNums ((zs.drop a).take (b - a)) := by
  unfold strOfNums
  rw [ByteArray.extract_mk, List.map_take, List.map_drop]

end Go.Proofs.YtmhbjkoabbmfpaaGreat

namespace Go.Proofs.YtmhbjkoabbmfpaaGreat
open Go.RowKit
set_option linter.unusedVariables false
set_option linter.unusedSimpArgs false

theorem str_nums (s : ByteArray) : ∃ z : List Int, s = strOfNums z ∧ ∀ i, 0 ≤ z.getD i 0 ∧ z.getD i 0 ≤ 255 := by
  refine ⟨s.data.toList.map fun x => (x.toNat : Int), ?_, getD_bd ?_⟩
  · apply ByteArray.ext
    apply Array.ext'
    rw [strOfNums_data, List.map_map]
    conv => lhs; rw [← List.map_id s.data.toList]
    apply List.map_congr_left
    intro x _
    simp
  · intro c hc
    obtain ⟨x, _, rfl⟩ := List.mem_map.1 hc
    have := x.toNat_lt
    omega

theorem run_cut_to (S : ByteArray) (i : Nat) (ii : Int) (hi : ii = (i : Int)) (h1 : i ≤ S.size) :
    ∀ W, (Instr.slice 9 (.string S) (some (.int .i64 ii)) none none).run Tryz.prog W = .ok (.string (S.extract i S.size)) W := fun W => by
  subst hi
  rw [run_slice_string_l W 9 S Tryz.underlying9 .i64 (i : Int) (by omega) (by omega)]
  simp

end Go.Proofs.YtmhbjkoabbmfpaaGreat

namespace Go.Proofs.YtmhbjkoabbmfpaaGreat
open Go.RowKit
set_option linter.unusedVariables false

theorem str_app (a b : List Int) : strOfNums a ++ strOfNums b = strOfNums (a ++ b) := by
  unfold strOfNums
  rw [ByteArray.mk_append_mk, List.map_append]

theorem run_add (w : World) (a b : List Int) (h : a.length + b.length ≤ 9223372036854775807) : (Op.stringOp .add (strOfNums a) (strOfNums b)).run Tryz.prog w = .ok (.string (strOfNums (a ++ b))) w := by
  rw [run_string_add_sum w _ _ (by rw [strOfNums_size, strOfNums_size]; exact h), str_app]

end Go.Proofs.YtmhbjkoabbmfpaaGreat

namespace Go.Proofs.YtmhbjkoabbmfpaaGreat
open Go.RowKit
set_option linter.unusedVariables false
set_option linter.unusedSimpArgs false

theorem run_head (s : List Int) (k : Nat) (hk : k ≤ s.length) (hl : (s.length : Int) ≤ 9223372036854775807) : ∀ W, (Instr.slice 9 (.string (strOfNums s)) none (some (.int .i64 (k : Int))) none).run Tryz.prog W = .ok (.string (strOfNums (s.take k))) W := fun W => by
  have hsz := strOfNums_size s
  rw [run_slice_string_h (P := Tryz.prog) W 9 (strOfNums s) Tryz.underlying9 .i64 (k : Int) (by omega) (by omega)]
  rw [Int.toNat_natCast, str_cut]
  simp

theorem run_tail (s : List Int) (k : Nat) (hk : k ≤ s.length) (ii : Int) (hi : ii = (k : Int)) : ∀ W, (Instr.slice 9 (.string (strOfNums s)) (some (.int .i64 ii)) none none).run Tryz.prog W = .ok (.string (strOfNums (s.drop k))) W := fun W => by
  rw [run_cut_to (strOfNums s) k ii hi (by rw [strOfNums_size]; exact hk) W, str_cut, strOfNums_size, List.take_of_length_le (by simp)]

def scell (z : List Int) : Value := .string (strOfNums z)

def byts (z : List Int) : Prop := ∀ c ∈ z, 0 ≤ c ∧ c ≤ 255

def Ss (w : World) (a : Option Addr) (len cap : Nat) (zs : List (List Int)) : Prop :=
  zs.length = len ∧ (len : Int) ≤ 9223372036854775807 ∧ len ≤ cap ∧ (a = none → cap = 0) ∧ (∀ z ∈ zs, byts z) ∧
    (0 < len → ∃ b off, a = some ⟨b, off, none⟩ ∧ b < w.heap.size ∧ ∀ i z, zs[i]? = some z → w.cell? ⟨b, off + i, none⟩ = some (scell z))

open Go.ChangeShapes Go.WideShapes Go.ChangeAt
theorem ss_open {H : Type} {enc : TypeId × Value → H} {W : World} {a : Option Addr} {len cap : Nat} {d : DataW H} {ps : List MemPlace}
    (h : DataW.Trod enc Tryz.prog W 0 (fun _ => true) true 30 (.slice a len cap) d ps) : ∃ zs, Ss W a len cap zs := by
  obtain ⟨fuel, hf⟩ := h
  have hf' : DataW.trod enc Tryz.prog W 0 (fun _ => true) true fuel 30 [.slice a len cap] = some (d, ps) := by simpa [Value.cells] using hf
  rcases open_strings Tryz.underlying30 Tryz.underlying9 (by kernel_rfl) hf' with ⟨hcs, _⟩ | ⟨x, l, c, ss, hcs, _, hl, hm, hz, _, hcell, hws⟩
  · simp at hcs
    obtain ⟨rfl, rfl, rfl⟩ := hcs
    exact ⟨[], rfl, by omega, Nat.le_refl _, fun _ => rfl, by simp, fun h => absurd h (by omega)⟩
  · simp at hcs
    obtain ⟨rfl, rfl, rfl⟩ := hcs
    simp only [if_true] at hz
    have hex : ∀ s : ByteArray, ∃ z : List Int, s = strOfNums z ∧ byts z := fun s => by
      obtain ⟨z, h1, h2⟩ := str_nums s
      exact ⟨z, h1, mem_bd h2⟩
    refine ⟨(ss.take len).map (fun s => (hex s).choose), by simp; omega, by unfold maxLen at hm; omega, hl, fun h => by simp at h, ?_, ?_⟩
    · intro z hz
      obtain ⟨s, _, rfl⟩ := List.mem_map.1 hz
      exact (hex s).choose_spec.2
    · intro hp
      obtain ⟨b, off, spot⟩ := x
      have hc0 := hcell 0 (by omega)
      have hspot : spot = none := by simpa [Addr.add] using World.cell?_spot hc0
      subst hspot
      refine ⟨b, off, rfl, ?_, ?_⟩
      · rcases Nat.lt_or_ge b W.heap.size with h | h
        · exact h
        · simp [World.cell?, Addr.add, Array.getElem?_eq_none h] at hc0
      · intro i z hi
        rw [List.getElem?_map] at hi
        cases hs : (ss.take len)[i]? with
        | none => rw [hs] at hi; simp at hi
        | some s =>
          rw [hs] at hi
          simp at hi
          subst hi
          have hil : i < len := by
            have := (List.getElem?_eq_some_iff.1 hs).1
            simp at this
            omega
          have := hcell i (by omega)
          have hp : (⟨b, off, none⟩ : Addr).add i = ⟨b, off + i, none⟩ := by unfold Addr.add; split <;> simp_all
          rw [hp] at this
          rw [this]
          rw [List.getElem?_take, if_pos hil] at hs
          simp only [List.getD, hs, Option.getD_some, scell]
          rw [← (hex s).choose_spec.1]

def NTab (_ : World) : Prop := True

end Go.Proofs.YtmhbjkoabbmfpaaGreat

namespace Go.Proofs.YtmhbjkoabbmfpaaGreat
open Go.Shelf

def Sh.lays103_ren : Go.Shelf.Ren := ⟨fun | 103 => 105 | 210 => 139 | 206 => 103 | n => n, fun | 9 => 9 | 4 => 4 | 24 => 68 | 3 => 3 | n => n, fun | n => n⟩

theorem Sh.lays103 : Go.Proofs.Lays.n103 Tryz.prog Sh.lays103_ren := {
  mixed := by kernel_rfl
  f103 := Tryz.func105.trans (congrArg some (by kernel_rfl))
  f206 := Tryz.func103.trans (congrArg some (by kernel_rfl))
  f210 := Tryz.func139.trans (congrArg some (by kernel_rfl))
  t3 := Tryz.underlying3
  a3 := Tryz.isAgg3
  z3 := Tryz.sizeOf3
  v3 := Tryz.zeroValue3
  t4 := Tryz.underlying4
  a4 := Tryz.isAgg4
  z4 := Tryz.sizeOf4
  v4 := Tryz.zeroValue4
  t9 := Tryz.underlying9
  a9 := Tryz.isAgg9
  z9 := Tryz.sizeOf9
  v9 := Tryz.zeroValue9
  t24 := Tryz.underlying68
  a24 := Tryz.isAgg68
  z24 := Tryz.sizeOf68
  v24 := Tryz.zeroValue68 }

open Go.RowKit in
theorem Sh.strings_CutPrefix (s p : ByteArray) (w : World) :
    Calls Tryz.prog 105 #[.string s, .string p] w fun e w' => e = .returned (.tuple #[.string ⟨(Lib.trimPrefix s.data.toList p.data.toList).toArray⟩, .bool (Lib.hasPrefix s.data.toList p.data.toList)]) ∧ w' = w := Any.strings_CutPrefix Sh.lays103 s p w

def Sh.laysM316_ren : Go.Shelf.Ren := ⟨fun | 316 => 89 | n => n, fun | 9 => 9 | 3 => 3 | 4 => 4 | 37 => 38 | 0 => 0 | 127 => 186 | 5 => 5 | n => n, fun | n => n⟩

theorem Sh.laysM316 : Go.Proofs.LaysM.n316 Tryz.prog Sh.laysM316_ren := {
  mixed := by kernel_rfl
  f316 := Tryz.func89.trans (congrArg some (by kernel_rfl))
  t0 := Tryz.underlying0
  a0 := Tryz.isAgg0
  z0 := Tryz.sizeOf0
  v0 := Tryz.zeroValue0
  t3 := Tryz.underlying3
  a3 := Tryz.isAgg3
  z3 := Tryz.sizeOf3
  v3 := Tryz.zeroValue3
  t4 := Tryz.underlying4
  a4 := Tryz.isAgg4
  z4 := Tryz.sizeOf4
  v4 := Tryz.zeroValue4
  t9 := Tryz.underlying9
  a9 := Tryz.isAgg9
  z9 := Tryz.sizeOf9
  v9 := Tryz.zeroValue9
  t37 := Tryz.underlying38
  a37 := Tryz.isAgg38
  z37 := Tryz.sizeOf38
  v37 := Tryz.zeroValue38
  t127 := Tryz.underlying186
  a127 := Tryz.isAgg186
  z127 := Tryz.sizeOf186
  v127 := Tryz.zeroValue186
  t5 := Tryz.underlying5
  a5 := Tryz.isAgg5
  z5 := Tryz.sizeOf5
  v5 := Tryz.zeroValue5
  i0 := by kernel_rfl
  i3 := by kernel_rfl
  i4 := by kernel_rfl
  i5 := by kernel_rfl
  i9 := by kernel_rfl
  i37 := by kernel_rfl
  i127 := by kernel_rfl }

open Go.RowKit in
theorem Sh.stringslite_Clone (s : ByteArray) (w : World) (hlim : s.size ≤ 281474976710656) :
    Calls Tryz.prog 89 #[.string s] w fun e w' => e = .returned (.string s) ∧ Below w.heap.size w w' := Any.stringslite_Clone Sh.laysM316 s w hlim

def Sh.lays148_ren : Go.Shelf.Ren := ⟨fun | 148 => 64 | 222 => 112 | 223 => 113 | 269 => 140 | n => n, fun | 9 => 9 | 3 => 3 | 4 => 4 | 5 => 5 | 146 => 198 | 51 => 197 | 46 => 184 | n => n, fun | n => n⟩

theorem Sh.lays148 : Go.Proofs.Lays.n148 Tryz.prog Sh.lays148_ren := {
  mixed := by kernel_rfl
  f148 := Tryz.func64.trans (congrArg some (by kernel_rfl))
  f222 := Tryz.func112.trans (congrArg some (by kernel_rfl))
  f223 := Tryz.func113.trans (congrArg some (by kernel_rfl))
  f269 := Tryz.func140.trans (congrArg some (by kernel_rfl))
  t3 := Tryz.underlying3
  a3 := Tryz.isAgg3
  z3 := Tryz.sizeOf3
  v3 := Tryz.zeroValue3
  t4 := Tryz.underlying4
  a4 := Tryz.isAgg4
  z4 := Tryz.sizeOf4
  v4 := Tryz.zeroValue4
  t5 := Tryz.underlying5
  a5 := Tryz.isAgg5
  z5 := Tryz.sizeOf5
  v5 := Tryz.zeroValue5
  t9 := Tryz.underlying9
  a9 := Tryz.isAgg9
  z9 := Tryz.sizeOf9
  v9 := Tryz.zeroValue9
  t46 := Tryz.underlying184
  a46 := Tryz.isAgg184
  z46 := Tryz.sizeOf184
  v46 := Tryz.zeroValue184
  t51 := Tryz.underlying197
  a51 := Tryz.isAgg197
  z51 := Tryz.sizeOf197
  v51 := Tryz.zeroValue197
  t146 := Tryz.underlying198
  a146 := Tryz.isAgg198
  z146 := Tryz.sizeOf198
  v146 := Tryz.zeroValue198 }

open Go.RowKit Go.Lib in
theorem Sh.strings_LastIndex_one (s sub : ByteArray) (h1 : sub.size = 1) (hs : s.size < 4611686018427387904) (w : World) :
    Calls Tryz.prog 64 #[.string s, .string sub] w fun e w' => e = .returned (.int .i64 (Lib.lastIndexByte s ((sub[0]'(by omega)).toNat : Int))) ∧ w' = w := Any.strings_LastIndex_one Sh.lays148 s sub h1 hs w

def Sh.lays99_ren : Go.Shelf.Ren := ⟨fun | 99 => 55 | 206 => 103 | n => n, fun | 9 => 9 | 4 => 4 | 3 => 3 | n => n, fun | n => n⟩

theorem Sh.lays99 : Go.Proofs.Lays.n99 Tryz.prog Sh.lays99_ren := {
  mixed := by kernel_rfl
  f99 := Tryz.func55.trans (congrArg some (by kernel_rfl))
  f206 := Tryz.func103.trans (congrArg some (by kernel_rfl))
  t3 := Tryz.underlying3
  a3 := Tryz.isAgg3
  z3 := Tryz.sizeOf3
  v3 := Tryz.zeroValue3
  t4 := Tryz.underlying4
  a4 := Tryz.isAgg4
  z4 := Tryz.sizeOf4
  v4 := Tryz.zeroValue4
  t9 := Tryz.underlying9
  a9 := Tryz.isAgg9
  z9 := Tryz.sizeOf9
  v9 := Tryz.zeroValue9 }

open Go.RowKit Go.Lib in
theorem Sh.strings_HasPrefix (s p : ByteArray) (w : World) :
    Calls Tryz.prog 55 #[.string s, .string p] w fun e w' => e = .returned (.bool (Lib.hasPrefix s.data.toList p.data.toList)) ∧ w' = w := Any.strings_HasPrefix Sh.lays99 s p w

def Sh.lays107_ren : Go.Shelf.Ren := ⟨fun | 107 => 53 | 108 => 101 | n => n, fun | 28 => 59 | 3 => 3 | 4 => 4 | 0 => 0 | n => n, fun | n => n⟩

theorem Sh.lays107 : Go.Proofs.Lays.n107 Tryz.prog Sh.lays107_ren := {
  mixed := by kernel_rfl
  f107 := Tryz.func53.trans (congrArg some (by kernel_rfl))
  f108 := Tryz.func101.trans (congrArg some (by kernel_rfl))
  t0 := Tryz.underlying0
  a0 := Tryz.isAgg0
  z0 := Tryz.sizeOf0
  v0 := Tryz.zeroValue0
  t3 := Tryz.underlying3
  a3 := Tryz.isAgg3
  z3 := Tryz.sizeOf3
  v3 := Tryz.zeroValue3
  t4 := Tryz.underlying4
  a4 := Tryz.isAgg4
  z4 := Tryz.sizeOf4
  v4 := Tryz.zeroValue4
  t28 := Tryz.underlying59
  a28 := Tryz.isAgg59
  z28 := Tryz.sizeOf59
  v28 := Tryz.zeroValue59 }

open Go.Lib in
theorem Sh.slices_Contains_int (b off n c : Nat) (zs : List Int) (x : Int) (w : World) (hz : n ≤ zs.length) (hbig : n ≤ 9223372036854775807) (hc : ∀ j, j < zs.length → w.cell? ⟨b, off + j, none⟩ = some (.int .i64 (zs.getD j 0))) :
    Calls Tryz.prog 53 #[.slice (some ⟨b, off, none⟩) n c, .int .i64 x] w fun e w' => e = .returned (.bool ((zs.take n).contains x)) ∧ w' = w := Any.slices_Contains_int Sh.lays107 b off n c zs x w hz hbig hc

open Go.Lib in
theorem Sh.slices_Contains_int_empty (a : Option Addr) (c : Nat) (x : Int) (w : World) :
    Calls Tryz.prog 53 #[.slice a 0 c, .int .i64 x] w fun e w' => e = .returned (.bool false) ∧ w' = w := Any.slices_Contains_int_empty Sh.lays107 a c x w

def Sh.lays110_ren : Go.Shelf.Ren := ⟨fun | 110 => 54 | 109 => 102 | n => n, fun | 31 => 30 | 9 => 9 | 4 => 4 | 3 => 3 | 0 => 0 | n => n, fun | n => n⟩

theorem Sh.lays110 : Go.Proofs.Lays.n110 Tryz.prog Sh.lays110_ren := {
  mixed := by kernel_rfl
  f109 := Tryz.func102.trans (congrArg some (by kernel_rfl))
  f110 := Tryz.func54.trans (congrArg some (by kernel_rfl))
  t0 := Tryz.underlying0
  a0 := Tryz.isAgg0
  z0 := Tryz.sizeOf0
  v0 := Tryz.zeroValue0
  t3 := Tryz.underlying3
  a3 := Tryz.isAgg3
  z3 := Tryz.sizeOf3
  v3 := Tryz.zeroValue3
  t4 := Tryz.underlying4
  a4 := Tryz.isAgg4
  z4 := Tryz.sizeOf4
  v4 := Tryz.zeroValue4
  t9 := Tryz.underlying9
  a9 := Tryz.isAgg9
  z9 := Tryz.sizeOf9
  v9 := Tryz.zeroValue9
  t31 := Tryz.underlying30
  a31 := Tryz.isAgg30
  z31 := Tryz.sizeOf30
  v31 := Tryz.zeroValue30 }

open Go.Lib in
theorem Sh.slices_Contains_string (b off n c : Nat) (zs : List ByteArray) (x : ByteArray) (w : World) (hz : n ≤ zs.length) (hbig : n ≤ 9223372036854775807) (hc : ∀ j, j < zs.length → w.cell? ⟨b, off + j, none⟩ = some (.string (zs.getD j ByteArray.empty))) :
    Calls Tryz.prog 54 #[.slice (some ⟨b, off, none⟩) n c, .string x] w fun e w' => e = .returned (.bool (Lib.containsS (zs.take n) x)) ∧ w' = w := Any.slices_Contains_string Sh.lays110 b off n c zs x w hz hbig hc

open Go.Lib in
theorem Sh.slices_Contains_string_empty (a : Option Addr) (c : Nat) (x : ByteArray) (w : World) :
    Calls Tryz.prog 54 #[.slice a 0 c, .string x] w fun e w' => e = .returned (.bool false) ∧ w' = w := Any.slices_Contains_string_empty Sh.lays110 a c x w

end Go.Proofs.YtmhbjkoabbmfpaaGreat

namespace Go.Proofs.YtmhbjkoabbmfpaaGreat
open Go.RowKit
set_option linter.unusedVariables false
set_option linter.unusedSimpArgs false

set_option maxHeartbeats 400000 in
theorem pnclone_any (S : ByteArray) (w : World) (hlen : S.size ≤ 1000000) :
    Calls Tryz.prog 45 #[.string S] w fun e w' => e = .returned (.string S) ∧ Below w.heap.size w w' := by
  have Q : Hid _ := Sh.stringslite_Clone S w (by omega)
  go_enter Tryz.func45, Tryz.ntmps45
  go_wp2_with fail
  refine Calls.mono Q.out ?_
  rintro e w1 ⟨rfl, hb⟩
  go_wp2
  go_ret
  exact ⟨rfl, hb⟩

set_option maxHeartbeats 1000000 in
theorem pjoin_any (a b : List Int) (w : World) (hT : Hid (NTab w)) (ha : Hid (byts a)) (hb : Hid (byts b)) (hl : a.length ≤ 10000) (hl2 : b.length ≤ 10000) :
    Calls Tryz.prog 57 #[.string (strOfNums a), .string (strOfNums b)] w fun e w' => e = .returned (.string (strOfNums (njoin a b))) ∧ Below w.heap.size w w' := by
  unfold njoin
  by_cases h : a = []
  · rw [if_pos h]
    have hne : ((strOfNums a).toList == []) = true := by rw [h, str_list]; rfl
    have Q : Hid _ := fun W => pnclone_any (strOfNums b) W (by rw [strOfNums_size]; omega)
    generalize strOfNums a = A at hne
    generalize strOfNums b = B at Q
    go_enter Tryz.func57, Tryz.ntmps57
    go_wp2_with fail
    refine Calls.mono (Q.out _) ?_
    rintro e w1 ⟨rfl, hb1⟩
    go_wp2
    go_ret
    exact ⟨rfl, hb1⟩
  · rw [if_neg h]
    have hne : ((strOfNums a).toList == []) = false := by
      cases a with
      | nil => exact absurd rfl h
      | cons c r => exact str_ne c r
    have h1 : ∀ W, (Op.stringOp .add (strOfNums a) { data := #[46] }).run Tryz.prog W = .ok (.string (strOfNums (a ++ [46]))) W := fun W => run_add W a [46] (by simp; omega)
    have h2 : ∀ W, (Op.stringOp .add (strOfNums (a ++ [46])) (strOfNums b)).run Tryz.prog W = .ok (.string (strOfNums (a ++ [46] ++ b))) W := fun W => run_add W (a ++ [46]) b (by simp; omega)
    clear h
    generalize strOfNums (a ++ [46] ++ b) = R at h2
    generalize strOfNums (a ++ [46]) = AP at h1 h2
    generalize strOfNums a = A at hne h1
    generalize strOfNums b = B at h2
    go_enter Tryz.func57, Tryz.ntmps57
    go_wp2
    go_ret
    exact ⟨rfl, Below.refl _ _⟩

theorem str_bang (s : List Int) (hz : ∀ i, 0 ≤ s.getD i 0 ∧ s.getD i 0 ≤ 255) (j : Nat) (hj : j < s.length) : (((strOfNums s).data[j]!).toNat : Int) = s.getD j 0 := by
  have hj' : j < (strOfNums s).size := by rw [strOfNums_size]; exact hj
  have := str_at s hz j hj'
  rw [← this]
  have e := get_at (strOfNums s) j hj'
  rw [Nat.add_zero] at e
  rw [← e]
  rfl

theorem last_dot (s : List Int) (hz : ∀ i, 0 ≤ s.getD i 0 ∧ s.getD i 0 ≤ 255) : ∀ k, k ≤ s.length → Lib.lastIdx (strOfNums s) 46 k = (nlast s k : Int) - 1
  | 0, _ => rfl
  | k + 1, h => by
    rw [Lib.lastIdx, str_bang s hz k (by omega), nlast]
    by_cases e : s.getD k 0 = 46
    · rw [if_pos e, if_pos e]; omega
    · rw [if_neg e, if_neg e, last_dot s hz k (by omega)]

set_option maxHeartbeats 1000000 in
theorem pncut_any (s : List Int) (w : World) (hz : Hid (∀ i, 0 ≤ s.getD i 0 ∧ s.getD i 0 ≤ 255)) (hlen : (s.length : Int) ≤ 100000) :
    Calls Tryz.prog 104 #[.string (strOfNums s)] w fun e w' => e = .returned (.tuple #[.string (strOfNums (nparent s).1), .string (strOfNums (nparent s).2)]) ∧ Below w.heap.size w w' := by
  have hsz := strOfNums_size s
  have q := fun W => Sh.strings_LastIndex_one (strOfNums s) { data := #[46] } rfl (by omega) W
  have he : Lib.lastIndexByte (strOfNums s) (((({ data := #[46] } : ByteArray)[0]'(by decide)).toNat : Nat) : Int) = (nlast s s.length : Int) - 1 := by
    show Lib.lastIdx (strOfNums s) 46 (strOfNums s).size = _
    rw [hsz]
    exact last_dot s hz.out s.length (Nat.le_refl _)
  have q' : ∀ W, Calls Tryz.prog 64 #[.string (strOfNums s), .string { data := #[46] }] W fun e w' => e = .returned (.int .i64 ((nlast s s.length : Int) - 1)) ∧ w' = W := fun W => by rw [← he]; exact q W
  clear q he
  have hle := nlast_le s s.length
  by_cases h0 : nlast s s.length = 0
  · have E : Hid (nparent s = ([], s)) := by show _ = _; unfold nparent; rw [if_pos h0]
    rw [h0] at q'
    have Q : Hid (∀ W, Calls Tryz.prog 64 #[.string (strOfNums s), .string { data := #[46] }] W fun e w' => e = .returned (.int .i64 (-1)) ∧ w' = W) := q'
    have h1 := run_head s 0 (by omega) (by omega)
    have h2 := run_tail s 0 (by omega) 0 rfl
    rw [E.out]
    simp only [List.take_zero, List.drop_zero, Int.ofNat_zero] at h1 h2 ⊢
    have HE : Hid ((strOfNums s).extract 0 0 = strOfNums []) := by show _ = _; rw [str_cut]; simp
    obtain ⟨A, hA⟩ : ∃ A, A = strOfNums [] := ⟨_, rfl⟩
    rw [← hA] at h1 HE ⊢
    clear q' E hle h0 hA h1
    generalize strOfNums s = S at *
    go_enter Tryz.func104, Tryz.ntmps104
    go_wp2_with fail
    refine Calls.mono (Q.out _) ?_
    rintro e w1 ⟨rfl, rfl⟩
    go_wp2
    go_region
    go_wp2
    go_ret2
    refine ⟨?_, (Below.refl _ _).drew⟩
    show Ending.returned (Value.tuple #[.string (S.extract 0 0), .string S]) = _
    rw [HE.out]
  · obtain ⟨m, hm⟩ : ∃ m, nlast s s.length = m + 1 := ⟨nlast s s.length - 1, by omega⟩
    have E : Hid (nparent s = (s.take m, s.drop (m + 1))) := by show _ = _; unfold nparent; rw [if_neg h0, hm, Nat.add_sub_cancel]
    rw [hm, show (((m + 1 : Nat) : Int) - 1) = (m : Int) by omega] at q'
    have Q : Hid _ := q'
    have h1 := run_head s m (by omega) (by omega)
    have h2 := run_tail s (m + 1) (by omega) ((m : Int) + 1) (by omega)
    have hm1 : m + 1 ≤ s.length := by omega
    have hmx : ¬ (m : Int) < 0 := by omega
    have hmx2 : (0 : Int) ≤ (m : Int) := by omega
    rw [E.out]
    obtain ⟨A, hA⟩ : ∃ A, A = strOfNums (s.take m) := ⟨_, rfl⟩
    obtain ⟨B, hB⟩ : ∃ B, B = strOfNums (s.drop (m + 1)) := ⟨_, rfl⟩
    simp only []
    rw [← hA] at h1 ⊢
    rw [← hB] at h2 ⊢
    clear q' E hle h0 hA hB hm
    generalize strOfNums s = S at *
    go_enter Tryz.func104, Tryz.ntmps104
    go_wp2_with fail
    refine Calls.mono (Q.out _) ?_
    rintro e w1 ⟨rfl, rfl⟩
    go_wp2
    go_region
    go_wp2
    go_ret2
    exact ⟨rfl, (Below.refl _ _).drew⟩

set_option maxHeartbeats 1000000 in
theorem pparent_any (s : List Int) (w : World) (hT : Hid (NTab w)) (hz : Hid (∀ i, 0 ≤ s.getD i 0 ∧ s.getD i 0 ≤ 255)) (hlen : (s.length : Int) ≤ 100000) :
    Calls Tryz.prog 56 #[.string (strOfNums s)] w fun e w' => e = .returned (.tuple #[.string (strOfNums (nparent s).1), .string (strOfNums (nparent s).2)]) ∧ Below w.heap.size w w' := by
  have Q : Hid _ := pncut_any s w hz hlen
  have hl : (nparent s).1.length ≤ s.length ∧ (nparent s).2.length ≤ s.length := by unfold nparent; split <;> simp <;> omega
  have Q1 : Hid _ := fun W => pnclone_any (strOfNums (nparent s).1) W (by rw [strOfNums_size]; omega)
  have Q2 : Hid _ := fun W => pnclone_any (strOfNums (nparent s).2) W (by rw [strOfNums_size]; omega)
  clear hl
  generalize strOfNums (nparent s).1 = A at *
  generalize strOfNums (nparent s).2 = B at *
  go_enter Tryz.func56, Tryz.ntmps56
  go_wp2_with fail
  refine Calls.mono Q.out ?_
  rintro e w1 ⟨rfl, hb1⟩
  go_wp2_with fail
  refine Calls.mono (Q1.out _) ?_
  rintro e w2 ⟨rfl, hb2⟩
  go_wp2_with fail
  refine Calls.mono (Q2.out _) ?_
  rintro e w3 ⟨rfl, hb3⟩
  go_wp2
  go_ret2
  exact ⟨rfl, (hb1.trans (hb2.mono hb1.size)).trans (hb3.mono (Nat.le_trans hb1.size hb2.size))⟩

end Go.Proofs.YtmhbjkoabbmfpaaGreat

namespace Go.Proofs.YtmhbjkoabbmfpaaGreat
set_option linter.unusedVariables false
set_option linter.unusedSimpArgs false

def slt (x y : ByteArray) : Bool := Op.bytesLess x.toList y.toList

theorem bytesLess_irrefl : ∀ (l : List UInt8), Op.bytesLess l l = false
  | [] => by simp [Op.bytesLess]
  | a :: l => by simp [Op.bytesLess, bytesLess_irrefl l]

theorem bytesLess_trans : ∀ (a b c : List UInt8), Op.bytesLess a b = true → Op.bytesLess b c = true → Op.bytesLess a c = true
  | [], [], c, h, _ => by simp [Op.bytesLess] at h
  | [], _ :: _, [], _, h => by simp [Op.bytesLess] at h
  | [], _ :: _, _ :: _, _, _ => by simp [Op.bytesLess]
  | _ :: _, [], _, h, _ => by simp [Op.bytesLess] at h
  | _ :: _, _ :: _, [], _, h => by simp [Op.bytesLess] at h
  | x :: a, y :: b, z :: c, h1, h2 => by
    simp only [Op.bytesLess, Bool.or_eq_true, Bool.and_eq_true, decide_eq_true_eq, beq_iff_eq] at h1 h2 ⊢
    rcases h1 with h1 | ⟨rfl, h1⟩
    · rcases h2 with h2 | ⟨rfl, h2⟩
      · exact .inl (UInt8.lt_trans h1 h2)
      · exact .inl h1
    · rcases h2 with h2 | ⟨rfl, h2⟩
      · exact .inl h2
      · exact .inr ⟨rfl, bytesLess_trans a b c h1 h2⟩

theorem bytesLess_tri : ∀ (a b : List UInt8), Op.bytesLess a b = false → Op.bytesLess b a = false → a = b
  | [], [], _, _ => rfl
  | [], _ :: _, h, _ => by simp [Op.bytesLess] at h
  | _ :: _, [], _, h => by simp [Op.bytesLess] at h
  | x :: a, y :: b, h1, h2 => by
    simp only [Op.bytesLess, Bool.or_eq_false_iff, Bool.and_eq_false_iff, decide_eq_false_iff_not, beq_eq_false_iff_ne] at h1 h2
    have hxy : x = y := by
      have a1 := UInt8.not_lt.1 h1.1
      have a2 := UInt8.not_lt.1 h2.1
      exact UInt8.le_antisymm a2 a1
    subst hxy
    have b1 : Op.bytesLess a b = false := by simpa using h1.2
    have b2 : Op.bytesLess b a = false := by simpa using h2.2
    rw [bytesLess_tri a b b1 b2]

theorem toList_inj {x y : ByteArray} (h : x.toList = y.toList) : x = y := by
  rw [ByteArray.toList_eq, ByteArray.toList_eq] at h
  cases x
  cases y
  simpa using h

theorem slt_irrefl (x : ByteArray) : slt x x = false := bytesLess_irrefl _

theorem slt_trans {x y z : ByteArray} (h1 : slt x y = true) (h2 : slt y z = true) : slt x z = true := bytesLess_trans _ _ _ h1 h2

theorem slt_tri {x y : ByteArray} (h1 : slt x y = false) (h2 : slt y x = false) : x = y := toList_inj (bytesLess_tri _ _ h1 h2)

def hput : List ByteArray → ByteArray → List ByteArray
  | [], s => [s]
  | x :: r, s => if slt x s = true then x :: hput r s else if x = s then x :: r else s :: x :: r

def Ris (l : List ByteArray) : Prop := l.Pairwise fun a b => slt a b = true

theorem hput_mem : ∀ (l : List ByteArray) (s y : ByteArray), y ∈ hput l s ↔ y = s ∨ y ∈ l
  | [], s, y => by simp [hput]
  | x :: r, s, y => by
    rw [hput]
    split
    · rw [List.mem_cons, hput_mem r s y, List.mem_cons]
      constructor
      · rintro (h | h | h)
        · exact .inr (.inl h)
        · exact .inl h
        · exact .inr (.inr h)
      · rintro (h | h | h)
        · exact .inr (.inl h)
        · exact .inl h
        · exact .inr (.inr h)
    · split
      · rename_i h
        subst h
        simp
      · simp

theorem hput_ris : ∀ (l : List ByteArray) (s : ByteArray), Ris l → Ris (hput l s)
  | [], s, _ => by simp [hput, Ris]
  | x :: r, s, h => by
    have h1 := List.pairwise_cons.1 h
    rw [hput]
    split
    · rename_i hx
      refine List.pairwise_cons.2 ⟨fun y hy => ?_, hput_ris r s h1.2⟩
      rcases (hput_mem r s y).1 hy with rfl | hy
      · exact hx
      · exact h1.1 y hy
    · split
      · exact h
      · rename_i hx hne
        have hsx : slt s x = true := by
          cases hq : slt s x with
          | true => rfl
          | false => exact absurd (slt_tri (by simpa using hx) hq) hne
        refine List.pairwise_cons.2 ⟨fun y hy => ?_, h⟩
        rcases List.mem_cons.1 hy with rfl | hy
        · exact hsx
        · exact slt_trans hsx (h1.1 y hy)

theorem ris_ext : ∀ (a b : List ByteArray), Ris a → Ris b → (∀ x, x ∈ a ↔ x ∈ b) → a = b
  | [], [], _, _, _ => rfl
  | [], y :: b, _, _, h => by have := (h y).2 (by simp); simp at this
  | x :: a, [], _, _, h => by have := (h x).1 (by simp); simp at this
  | x :: a, y :: b, ha, hb, h => by
    have h1 := List.pairwise_cons.1 ha
    have h2 := List.pairwise_cons.1 hb
    have hxy : x = y := by
      rcases List.mem_cons.1 ((h x).1 (by simp)) with e | e
      · exact e
      · rcases List.mem_cons.1 ((h y).2 (by simp)) with e2 | e2
        · exact e2.symm
        · have := slt_trans (h2.1 x e) (h1.1 y e2)
          rw [slt_irrefl] at this
          cases this
    subst hxy
    rw [ris_ext a b h1.2 h2.2 (fun z => ?_)]
    constructor
    · intro hz
      rcases List.mem_cons.1 ((h z).1 (by simp [hz])) with rfl | e
      · have := h1.1 z hz
        rw [slt_irrefl] at this
        cases this
      · exact e
    · intro hz
      rcases List.mem_cons.1 ((h z).2 (by simp [hz])) with rfl | e
      · have := h2.1 z hz
        rw [slt_irrefl] at this
        cases this
      · exact e

end Go.Proofs.YtmhbjkoabbmfpaaGreat

namespace Go.Proofs.YtmhbjkoabbmfpaaGreat
set_option linter.unusedVariables false
set_option linter.unusedSimpArgs false

theorem nodup_le : ∀ (a b : List ByteArray), a.Nodup → (∀ x ∈ a, x ∈ b) → a.length ≤ b.length
  | [], b, _, _ => by simp
  | x :: a, b, hn, hs => by
    have h1 := List.pairwise_cons.1 hn
    have hx : x ∈ b := hs x (by simp)
    obtain ⟨b1, b2, rfl⟩ := List.append_of_mem hx
    have ih := nodup_le a (b1 ++ b2) h1.2 (fun y hy => by
      have h2 := hs y (by simp [hy])
      have hne : y ≠ x := fun e => h1.1 y hy e.symm
      simp only [List.mem_append, List.mem_cons] at h2 ⊢
      rcases h2 with h2 | h2 | h2
      · exact .inl h2
      · exact absurd h2 hne
      · exact .inr h2)
    simp only [List.length_append, List.length_cons] at ih ⊢
    omega

theorem foldl_put : ∀ (xs w : List ByteArray), Ris w → Ris (xs.foldl hput w) ∧ ∀ x, x ∈ xs.foldl hput w ↔ x ∈ w ∨ x ∈ xs
  | [], w, h => ⟨h, fun x => by simp⟩
  | y :: xs, w, h => by
    have ih := foldl_put xs (hput w y) (hput_ris _ _ h)
    rw [List.foldl_cons]
    refine ⟨ih.1, fun x => ?_⟩
    rw [ih.2, hput_mem, List.mem_cons]
    constructor
    · rintro ((h | h) | h)
      · exact .inr (.inl h)
      · exact .inl h
      · exact .inr (.inr h)
    · rintro (h | h | h)
      · exact .inl (.inr h)
      · exact .inl (.inl h)
      · exact .inr h

end Go.Proofs.YtmhbjkoabbmfpaaGreat

namespace Go.Proofs.YtmhbjkoabbmfpaaGreat
open Go.RowKit
set_option linter.unusedVariables false
set_option linter.unusedSimpArgs false

structure Sb (w : World) (a : Option Addr) (len cap : Nat) (zs : List ByteArray) : Prop where
  hlen : zs.length = len
  h63 : (len : Int) ≤ 9223372036854775807
  hcap : len ≤ cap
  hnil : a = none → cap = 0
  hmem : 0 < len → ∃ b off, a = some ⟨b, off, none⟩ ∧ b < w.heap.size ∧ ∀ (i : Nat) (z : ByteArray), zs[i]? = some z → w.cell? ⟨b, off + i, none⟩ = some (.string z)

theorem Sb.below {w w' : World} {a : Option Addr} {len cap : Nat} {zs : List ByteArray} (h : Sb w a len cap zs) (hb : Below w.heap.size w w') : Sb w' a len cap zs := by
  refine ⟨h.hlen, h.h63, h.hcap, h.hnil, fun hp => ?_⟩
  obtain ⟨b, off, h1, hlt, hc⟩ := h.hmem hp
  exact ⟨b, off, h1, Nat.lt_of_lt_of_le hlt hb.size, fun i z hi => (hb.cell hlt).trans (hc i z hi)⟩

def Sw (w : World) (base : Nat) (v : Value) (zs : List ByteArray) : Prop := w.ownsRow base 9 1 v zs.length (zs.map Value.string)

theorem Sw.base {w : World} {base base' : Nat} {v : Value} {zs : List ByteArray} (h : Sw w base v zs) (hb : base' ≤ base) : Sw w base' v zs := own_base h hb

theorem Sw.slice {w : World} {base : Nat} {v : Value} {zs : List ByteArray} (h : Sw w base v zs) : ∃ a c, v = .slice a zs.length c := own_slice h

theorem Sb.of_own {w : World} {base : Nat} {a : Option Addr} {len cap : Nat} {zs : List ByteArray} (h : Sw w base (.slice a len cap) zs) : Sb w a len cap zs := by
  rcases h.2 with ⟨he, hn⟩ | ⟨g, c, cur, he, hg, hh, h1, h2, h3, h4⟩
  · simp at he
    obtain ⟨rfl, rfl, rfl⟩ := he
    exact ⟨hn, by omega, Nat.le_refl _, fun _ => rfl, fun h => absurd h (by omega)⟩
  · simp at he
    obtain ⟨rfl, rfl, rfl⟩ := he
    refine ⟨rfl, by unfold maxLen at h2; omega, h1, (fun h => by simp at h), fun _ => ⟨g, 0, rfl, (h.lt g rfl).2, fun i z hi => ?_⟩⟩
    have hil : i < zs.length := (List.getElem?_eq_some_iff.1 hi).1
    have := h.cellAt i (by omega)
    rw [Nat.zero_add, this]
    simp [hi]

theorem Tryz.infoStr2 : (Tryz.prog.info? 9).map (fun i => (i.zero, i.size, i.bytes)) = some (some (.string { data := #[] }), 1, 16) := by kernel_rfl

theorem text_eq (x y : ByteArray) : (x.toList == y.toList) = decide (x = y) := by
  by_cases h : x = y
  · subst h; simp
  · have : x.toList ≠ y.toList := fun e => h (toList_inj e)
    simp [h, this]

end Go.Proofs.YtmhbjkoabbmfpaaGreat

namespace Go.Proofs.YtmhbjkoabbmfpaaGreat
open Go.RowKit
open Go.ChangeMaps (setBlock heap_setBlock_same heap_setBlock_other modify_eq_set)
set_option linter.unusedVariables false
set_option linter.unusedSimpArgs false

theorem strKeyed : Maps.Keyed Tryz.prog 9 := Maps.string_keyed Tryz.underlying9

def Mg (w : World) (b n : Nat) (g : ByteArray → Option Value) : Prop :=
  ∃ es clock, w.heap[b]? = some (.map es clock) ∧ MapKept.Stamped es clock ∧ (∀ e ∈ es.toList, ∃ k : ByteArray, e.key = .string k ∧ k.size ≤ maxLen) ∧ es.size = n ∧ ∀ k v, g k = some v ↔ ∃ e ∈ es.toList, e.key = .string k ∧ e.val = v

theorem keyStr {k : ByteArray} (h : k.size ≤ maxLen) : keyOf Tryz.prog 9 (.string k) = some (.string k.data.toList) := by
  have h1 := Tryz.underlying9
  simp [keyOf, h1, mapKey, h]

theorem Mg.lt {w : World} {b n : Nat} {g : ByteArray → Option Value} (h : Mg w b n g) : b < w.heap.size := by
  obtain ⟨es, clock, hb, _⟩ := h
  exact (Array.getElem?_eq_some_iff.1 hb).1

theorem Mg.made (w : World) : Mg (w.alloc (.map #[] 0)) w.heap.size 0 (fun _ => none) :=
  ⟨#[], 0, heap_alloc_new w _, MapKept.stamped_empty 0, by simp, rfl, by simp⟩

theorem Mg.kept {w w' : World} {b n : Nat} {g : ByteArray → Option Value} {row : Option Nat} (h : Mg w b n g) (hg : w.grownBy w' row) (hne : some b ≠ row) : Mg w' b n g := by
  have hlt := h.lt
  obtain ⟨es, clock, hb, r⟩ := h
  exact ⟨es, clock, (hg.block b hlt hne).trans hb, r⟩

theorem Mg.below {w w' : World} {b n : Nat} {g : ByteArray → Option Value} (h : Mg w b n g) {m : Nat} (hb : Below m w w') (hm : b < m) : Mg w' b n g := by
  obtain ⟨es, clock, h1, r⟩ := h
  exact ⟨es, clock, (hb.block b hm).trans h1, r⟩

def mlook (z : Value) : Option Value → Bool → Value
  | some v, true => .tuple #[v, .bool true]
  | none, true => .tuple #[z, .bool false]
  | some v, false => v
  | none, false => z

theorem Mg.look {w : World} {b n : Nat} {g : ByteArray → Option Value} (h : Mg w b n g) {t e : TypeId} (ht : Tryz.prog.underlying t = some (.map 9 e)) {z : Value} (hz : (zeroValue e).run Tryz.prog w = .ok z w) (k : ByteArray) (hk : k.size ≤ maxLen) (c : Bool) :
    (Instr.lookup t (.map (some b)) (.string k) c).run Tryz.prog w = .ok (mlook z (g k) c) w := by
  obtain ⟨es, clock, hb, hst, hkeys, hn, hg⟩ := h
  have hkey := keyStr hk
  rcases strKeyed.find w hkey es.toList (fun e he => by obtain ⟨x, hx, hxs⟩ := hkeys e he; rw [hx]; exact ⟨_, keyStr hxs⟩) with ⟨h1, h2⟩ | ⟨j, e0, h1, h2, h3⟩
  · have hgn : g k = none := by
      cases hq : g k with
      | none => rfl
      | some v => obtain ⟨e, he, hek, _⟩ := (hg k v).1 hq; exact absurd hek (h2 e he)
    rw [hgn]
    cases c <;> simp [Instr.lookup, run_underlying ht, MapKept.run_getObj_map hb, strKeyed.check w _ hkey, h1, hz, Result.andThen, mlook]
  · have hgs : g k = some e0.val := (hg k _).2 ⟨e0, List.mem_of_getElem? h2, h3, rfl⟩
    rw [hgs]
    cases c <;> simp [Instr.lookup, run_underlying ht, MapKept.run_getObj_map hb, strKeyed.check w _ hkey, h1, Result.andThen, mlook]

theorem Mg.put {w : World} {b n : Nat} {g : ByteArray → Option Value} (h : Mg w b n g) {t e : TypeId} (ht : Tryz.prog.underlying t = some (.map 9 e)) (k : ByteArray) (hk : k.size ≤ maxLen) (v : Value) :
    ∃ w', (Instr.mapUpdate t (.map (some b)) (.string k) v).run Tryz.prog w = .ok () w' ∧ Mg w' b (match g k with | none => n + 1 | some _ => n) (fun x => if x = k then some v else g x) ∧ w.grownBy w' (some b) := by
  obtain ⟨es, clock, hb, hst, hkeys, hn, hg⟩ := h
  have hkey := keyStr hk
  have grown : ∀ o : Obj, w.grownBy (setBlock w b o) (some b) := fun o => ⟨rfl, rfl, rfl, by simp [setBlock], fun i _ hi => heap_setBlock_other hb _ (fun e => hi (by rw [e]))⟩
  have sinj : ∀ {x y : ByteArray}, Value.string x = .string y → x = y := fun e => by simpa using e
  rcases strKeyed.find w hkey es.toList (fun e he => by obtain ⟨x, hx, hxs⟩ := hkeys e he; rw [hx]; exact ⟨_, keyStr hxs⟩) with ⟨h1, h2⟩ | ⟨j, e0, h1, h2, h3⟩
  · have hgn : g k = none := by
      cases hq : g k with
      | none => rfl
      | some v => obtain ⟨e, he, hek, _⟩ := (hg k v).1 hq; exact absurd hek (h2 e he)
    rw [hgn]
    refine ⟨setBlock w b (.map (es.push ⟨.string k, v, clock⟩) (clock + 1)), ?_, ⟨_, _, heap_setBlock_same hb _, MapKept.stamped_push hst h2, ?_, by simp [hn], ?_⟩, grown _⟩
    · simp [Instr.mapUpdate, run_underlying ht, MapKept.run_getObj_map hb, strKeyed.check w false hkey, h1, MapKept.run_setObj_map _ hb, Result.andThen, setBlock]
    · intro x hx
      simp only [Array.toList_push, List.mem_append, List.mem_singleton] at hx
      rcases hx with hx | rfl
      · exact hkeys x hx
      · exact ⟨k, rfl, hk⟩
    · intro x u
      simp only [Array.toList_push, List.mem_append, List.mem_singleton]
      by_cases hx : x = k
      · subst hx
        rw [if_pos rfl]
        constructor
        · intro hu
          exact ⟨_, .inr rfl, rfl, by simpa using hu⟩
        · rintro ⟨y, hy | rfl, hyk, hyv⟩
          · exact absurd hyk (h2 y hy)
          · simpa using hyv
      · rw [if_neg hx, hg]
        constructor
        · rintro ⟨y, hy, r⟩
          exact ⟨y, .inl hy, r⟩
        · rintro ⟨y, hy | rfl, hyk, hyv⟩
          · exact ⟨y, hy, hyk, hyv⟩
          · exact absurd (sinj hyk).symm hx
  · have hgs : g k = some e0.val := (hg k _).2 ⟨e0, List.mem_of_getElem? h2, h3, rfl⟩
    rw [hgs]
    have hj : es[j]? = some e0 := by simpa using h2
    have hjl : j < es.toList.length := (List.getElem?_eq_some_iff.1 h2).1
    have hlist : (es.modify j (fun e' => { e' with key := .string k, val := v })).toList = es.toList.set j { e0 with key := .string k, val := v } := by rw [Array.toList_modify, modify_eq_set _ _ _ _ h2]
    have hkeyf : ∀ e', es[j]? = some e' → ({ e' with key := .string k, val := v } : MapEntry).key = e'.key := fun e' he' => by rw [hj] at he'; cases he'; exact h3.symm
    have hpw := (MapKept.stamped_iff _ _).1 hst
    have other : ∀ (i : Nat) (e : MapEntry), es.toList[i]? = some e → i ≠ j → e.key ≠ .string k := by
      intro i e hi hne hek
      have hi' := (List.getElem?_eq_some_iff.1 hi)
      have hj' := (List.getElem?_eq_some_iff.1 h2)
      obtain ⟨hi1, hi2⟩ := hi'
      obtain ⟨hj1, hj2⟩ := hj'
      have pw := List.pairwise_iff_getElem.1 hpw.2.2
      rcases Nat.lt_or_gt_of_ne hne with hlt | hlt
      · exact pw i j hi1 hj1 hlt (by rw [hi2, hj2, hek, h3])
      · exact pw j i hj1 hi1 hlt (by rw [hi2, hj2, hek, h3])
    have who : ∀ x, x ∈ es.toList.set j { e0 with key := .string k, val := v } ↔ x = { e0 with key := .string k, val := v } ∨ (x ∈ es.toList ∧ x.key ≠ .string k) := by
      intro x
      constructor
      · intro hx
        obtain ⟨i, hi, ex⟩ := List.getElem_of_mem hx
        rw [List.getElem_set] at ex
        split at ex
        · exact Or.inl ex.symm
        · rename_i hne
          have hi' : i < es.toList.length := by simpa using hi
          exact Or.inr ⟨ex ▸ List.getElem_mem hi', other i x (by rw [List.getElem?_eq_getElem hi', ex]) (fun e => hne e.symm)⟩
      · rintro (rfl | ⟨hx, hxk⟩)
        · exact List.mem_iff_getElem.2 ⟨j, by simpa using hjl, by simp⟩
        · obtain ⟨i, hi⟩ := List.getElem?_of_mem hx
          have hij : i ≠ j := fun e => by subst e; rw [h2] at hi; cases hi; exact hxk h3
          have hi' := (List.getElem?_eq_some_iff.1 hi)
          obtain ⟨hi1, hi2⟩ := hi'
          exact List.mem_iff_getElem.2 ⟨i, by simpa using hi1, by rw [List.getElem_set_ne (fun e => hij e.symm)]; exact hi2⟩
    refine ⟨setBlock w b (.map (es.modify j (fun e' => { e' with key := .string k, val := v })) clock), ?_, ⟨_, _, heap_setBlock_same hb _, MapKept.stamped_modify hst _ _ (fun _ _ => rfl) (fun e' _ he' => hkeyf e' he'), ?_, by simp [hn], ?_⟩, grown _⟩
    · simp [Instr.mapUpdate, run_underlying ht, MapKept.run_getObj_map hb, strKeyed.check w false hkey, h1, hj, h3, strKeyed.stays w hkey, MapKept.run_setObj_map _ hb, Result.andThen, setBlock]
    · intro x hx
      have hx := hlist.subst (motive := fun l => x ∈ l) hx
      rcases (who x).1 hx with rfl | ⟨hx, _⟩
      · exact ⟨k, rfl, hk⟩
      · exact hkeys x hx
    · intro x u
      show (if x = k then some v else g x) = some u ↔ ∃ e ∈ (es.modify j (fun e' => { e' with key := .string k, val := v })).toList, e.key = .string x ∧ e.val = u
      rw [hlist]
      by_cases hx : x = k
      · subst hx
        rw [if_pos rfl]
        constructor
        · intro hu
          exact ⟨_, (who _).2 (.inl rfl), rfl, by simpa using hu⟩
        · rintro ⟨y, hy, hyk, hyv⟩
          rcases (who y).1 hy with rfl | ⟨_, h⟩
          · simpa using hyv
          · exact absurd hyk h
      · rw [if_neg hx, hg]
        constructor
        · rintro ⟨y, hy, hyk, r⟩
          exact ⟨y, (who y).2 (.inr ⟨hy, fun e => hx (sinj (hyk.symm.trans e))⟩), hyk, r⟩
        · rintro ⟨y, hy, hyk, hyv⟩
          rcases (who y).1 hy with rfl | ⟨hy, _⟩
          · exact absurd (sinj hyk).symm hx
          · exact ⟨y, hy, hyk, hyv⟩

end Go.Proofs.YtmhbjkoabbmfpaaGreat
