/- Put together by a program out of these texts of mine: UMath, LMath, NMath, Bas, QRef, QEsc, QTak, LRef, LRef2, QNum, NRef, NRef2, NStr, NRef5. -/
import Derived.WalkKit
import Derived.Test.YtafmoceinamcdaaGreatRows
import Derived.WalkMore
import Derived.ScopeJumps
import Derived.OpenShut
import Derived.ProofKit
import Derived.Laws.BytesArg
import Derived.Deep.QuietTactic
import Derived.BigQuiet
import Derived.WalkSmall
import Derived.SliceStrings

namespace Go.Proofs.YtafmoceinamcdaaGreat

def cont (c : Int) : Prop := 128 ≤ c ∧ c < 192
def un2 (a b : Int) : Int := (a - 192) * 64 + b - 128
def un3 (a b c : Int) : Int := ((a - 224) * 64 + b - 128) * 64 + c - 128
def un4 (a b c d : Int) : Int := (((a - 240) * 64 + b - 128) * 64 + c - 128) * 64 + d - 128
def fit1 (len a : Int) : Prop := 1 ≤ len ∧ a < 128
def fit2 (len a b : Int) : Prop := 2 ≤ len ∧ 194 ≤ a ∧ a < 224 ∧ cont b
def fit3 (len a b c : Int) : Prop := 3 ≤ len ∧ 224 ≤ a ∧ a < 240 ∧ cont b ∧ cont c ∧ 2048 ≤ un3 a b c ∧ (un3 a b c < 55296 ∨ 57343 < un3 a b c)
def fit4 (len a b c d : Int) : Prop := 4 ≤ len ∧ 240 ≤ a ∧ a < 248 ∧ cont b ∧ cont c ∧ cont d ∧ 65536 ≤ un4 a b c d ∧ un4 a b c d ≤ 1114111

instance (len a : Int) : Decidable (fit1 len a) := by unfold fit1; infer_instance
instance (c : Int) : Decidable (cont c) := by unfold cont; infer_instance
instance (len a b : Int) : Decidable (fit2 len a b) := by unfold fit2; infer_instance
instance (len a b c : Int) : Decidable (fit3 len a b c) := by unfold fit3; infer_instance
instance (len a b c d : Int) : Decidable (fit4 len a b c d) := by unfold fit4; infer_instance

end Go.Proofs.YtafmoceinamcdaaGreat

namespace Go.Proofs.YtafmoceinamcdaaGreat
set_option linter.unusedSimpArgs false

def lletter (c : Int) : Bool := decide ((97 ≤ c ∧ c ≤ 122) ∨ (65 ≤ c ∧ c ≤ 90) ∨ (48 ≤ c ∧ c ≤ 57) ∨ c = 95)

def lnumb (c : Int) : Bool := decide (48 ≤ c ∧ c ≤ 57)

def lpc (s : List Int) (i k : Nat) : List Int := (s.take k).drop i

end Go.Proofs.YtafmoceinamcdaaGreat

namespace Go.Proofs.YtafmoceinamcdaaGreat
set_option linter.unusedSimpArgs false
set_option linter.unusedVariables false

def nident (s : List Int) : Bool := s.all lletter && decide (1 ≤ s.length ∧ s.length ≤ 200) && !lnumb (s.getD 0 0)

def nsp : List Int → List Int → List (List Int)
  | cur, [] => [cur]
  | cur, c :: r => if c = 46 then cur :: nsp [] r else nsp (cur ++ [c]) r

def nparts (s : List Int) : List (List Int) := nsp [] s

def nfull (s : List Int) : Bool := decide (s.length ≤ 1000) && (nparts s).all nident

def njoin (a b : List Int) : List Int := if a = [] then b else a ++ [46] ++ b

def nlast (s : List Int) : Nat → Nat
  | 0 => 0
  | k + 1 => if s.getD k 0 = 46 then k + 1 else nlast s k

theorem nlast_le (s : List Int) : ∀ k, nlast s k ≤ k
  | 0 => Nat.le_refl _
  | k + 1 => by
    unfold nlast
    split
    · exact Nat.le_refl _
    · have := nlast_le s k; omega

def nparent (s : List Int) : List Int × List Int :=
  if nlast s s.length = 0 then ([], s) else (s.take (nlast s s.length - 1), s.drop (nlast s s.length))

theorem nparent_lt (s : List Int) (h : s ≠ []) : (nparent s).1.length < s.length := by
  unfold nparent
  have hl : 0 < s.length := List.length_pos_iff.2 h
  split
  · simpa using hl
  · have := nlast_le s s.length
    simp only [List.length_take]
    omega

def nplc (name : List Int) : Nat → List Int → List (List Int)
  | 0, _ => [name]
  | f + 1, scope => if scope = [] then [name] else njoin scope name :: nplc name f (nparent scope).1

def nplaces (scope name : List Int) : List (List Int) :=
  if name.getD 0 0 = 46 then [name.drop 1] else nplc name scope.length scope

theorem nplc_fuel (name : List Int) : ∀ (f g : Nat) (s : List Int), s.length ≤ f → s.length ≤ g → nplc name f s = nplc name g s
  | 0, 0, s, _, _ => rfl
  | 0, g + 1, s, h, _ => by
    have : s = [] := List.eq_nil_of_length_eq_zero (by omega)
    rw [nplc, nplc, if_pos this]
  | f + 1, 0, s, _, h => by
    have : s = [] := List.eq_nil_of_length_eq_zero (by omega)
    rw [nplc, nplc, if_pos this]
  | f + 1, g + 1, s, h1, h2 => by
    rw [nplc, nplc]
    by_cases k : s = []
    · rw [if_pos k, if_pos k]
    · rw [if_neg k, if_neg k]
      have := nparent_lt s k
      rw [nplc_fuel name f g _ (by omega) (by omega)]

end Go.Proofs.YtafmoceinamcdaaGreat

namespace Go.Proofs.YtafmoceinamcdaaGreat
open Go.RowKit

theorem Tryz.info5 : (Tryz.prog.info? 5).map (fun i => (i.zero, i.size, i.bytes)) = some (some (.int .u8 0), 1, 1) := by kernel_rfl

theorem one_new (w : World) (v : Value) (e : TypeId) : ∀ (j : Nat) (u : Value), [v][j]? = some u → (w.alloc (.cells #[v] e)).cell? (({ block := w.heap.size, off := 0 } : Addr).add j) = some u := by
  intro j u hj
  match j, hj with
  | 0, hj => simp at hj; subst hj; simp [Addr.add]
theorem one_cell (k : IntKind) (n : Int) : ∀ u, u ∈ [Value.int k n] → u.oneCell' = true := by
  intro u hu; simp at hu; subst hu; rfl

theorem row_open {w : World} {a : Option Addr} {len cap : Nat} {zs : List Int}
    (h : (a = none ∧ len = 0 ∧ cap = 0 ∧ zs = []) ∨ ∃ x, a = some x ∧ len ≤ cap ∧ cap ≤ maxLen ∧ zs.length = cap ∧ (∀ i, i < zs.length → w.cell? (x.add i) = some (.int .u8 (zs.getD i 0))) ∧ ∀ n ∈ zs, (Lit.int .u8 n).wf = true) :
    (len : Int) ≤ 9223372036854775807 ∧ (zs.take len).length = len ∧ (∀ i, 0 ≤ (zs.take len).getD i 0 ∧ (zs.take len).getD i 0 ≤ 255) ∧
      (0 < len → ∃ b off, a = some ⟨b, off, none⟩ ∧ b < w.heap.size ∧ ∀ i, i < len → w.cell? ⟨b, off + i, none⟩ = some (.int .u8 ((zs.take len).getD i 0))) := by
  rcases h with ⟨rfl, rfl, rfl, rfl⟩ | ⟨x, rfl, hl, hm, hz, hcell, hwz⟩
  · exact ⟨by omega, rfl, fun i => by simp, fun h => absurd h (by omega)⟩
  · refine ⟨by unfold maxLen at hm; omega, by simp; omega, ?_, ?_⟩
    · intro i
      rcases Nat.lt_or_ge i (zs.take len).length with h | h
      · have hm := List.getElem_mem h
        have := bounds_u8 (hwz _ (List.mem_of_mem_take hm))
        simp only [List.getD, List.getElem?_eq_getElem h, Option.getD_some]
        omega
      · simp [List.getD, List.getElem?_eq_none h]
    · intro h0
      obtain ⟨b, off, spot⟩ := x
      have hc := hcell 0 (by omega)
      have hspot : spot = none := by simpa [Addr.add] using World.cell?_spot hc
      subst hspot
      refine ⟨b, off, rfl, ?_, ?_⟩
      · rcases Nat.lt_or_ge b w.heap.size with h | h
        · exact h
        · simp [World.cell?, Addr.add, Array.getElem?_eq_none h] at hc
      · intro i hi
        have := hcell i (by omega)
        have hp : (⟨b, off, none⟩ : Addr).add i = ⟨b, off + i, none⟩ := by unfold Addr.add; split <;> simp_all
        rw [hp] at this
        rw [this]
        simp [List.getD, hi]

def Bs (w : World) (a : Option Addr) (len cap : Nat) (zs : List Int) : Prop :=
  zs.length = len ∧ (len : Int) ≤ 9223372036854775807 ∧ (∀ i, 0 ≤ zs.getD i 0 ∧ zs.getD i 0 ≤ 255) ∧ len ≤ cap ∧ (a = none → cap = 0) ∧
    (0 < len → ∃ b off, a = some ⟨b, off, none⟩ ∧ b < w.heap.size ∧ ∀ i, i < len → w.cell? ⟨b, off + i, none⟩ = some (.int .u8 (zs.getD i 0)))

theorem Bs.below {w w' : World} {a : Option Addr} {len cap : Nat} {zs : List Int} (h : Bs w a len cap zs) {B : Nat} (hb : Below B w w') (hB : w.heap.size ≤ B) : Bs w' a len cap zs := by
  obtain ⟨h1, h2, h3, h4, h5, h6⟩ := h
  refine ⟨h1, h2, h3, h4, h5, fun hp => ?_⟩
  obtain ⟨b, off, rfl, hlt, hc⟩ := h6 hp
  exact ⟨b, off, rfl, Nat.lt_of_lt_of_le hlt hb.size, fun i hi => (hb.cell (show b < B by omega)).trans (hc i hi)⟩

theorem Bs.of_row {w : World} {a : Option Addr} {len cap : Nat} {zs : List Int}
    (h : (a = none ∧ len = 0 ∧ cap = 0 ∧ zs = []) ∨ ∃ x, a = some x ∧ len ≤ cap ∧ cap ≤ maxLen ∧ zs.length = cap ∧ (∀ i, i < zs.length → w.cell? (x.add i) = some (.int .u8 (zs.getD i 0))) ∧ ∀ n ∈ zs, (Lit.int .u8 n).wf = true) :
    Bs w a len cap (zs.take len) := by
  obtain ⟨h1, h2, h3, h4⟩ := row_open h
  refine ⟨h2, h1, h3, ?_, ?_, h4⟩
  · rcases h with ⟨_, rfl, _, _⟩ | ⟨x, _, hl, _⟩
    · exact Nat.zero_le _
    · exact hl
  · intro hn
    rcases h with ⟨_, _, rfl, _⟩ | ⟨x, hx, _⟩
    · rfl
    · rw [hn] at hx; simp at hx

theorem getD_bd {l : List Int} (h : ∀ c ∈ l, 0 ≤ c ∧ c ≤ 255) (i : Nat) : 0 ≤ l.getD i 0 ∧ l.getD i 0 ≤ 255 := by
  rcases Nat.lt_or_ge i l.length with hl | hl
  · simp only [List.getD, List.getElem?_eq_getElem hl, Option.getD_some]
    exact h _ (List.getElem_mem hl)
  · simp [List.getD, List.getElem?_eq_none hl]

theorem mem_bd {l : List Int} (h : ∀ i, 0 ≤ l.getD i 0 ∧ l.getD i 0 ≤ 255) : ∀ c ∈ l, 0 ≤ c ∧ c ≤ 255 := by
  intro c hc
  obtain ⟨i, hi, rfl⟩ := List.getElem_of_mem hc
  have := h i
  simpa [List.getD, List.getElem?_eq_getElem hi] using this

theorem ints_one (l : List Int) : ∀ u, u ∈ l.map (Value.int .u8) → u.oneCell' = true := by
  intro u hu
  obtain ⟨n, _, rfl⟩ := List.mem_map.1 hu
  rfl

theorem own_below {W W' : World} {base e sz n : Nat} {v : Value} {xs : List Value} (h : W.ownsRow base e sz v n xs) (hb : Below W.heap.size W W') : W'.ownsRow base e sz v n xs :=
  h.kept (row := none) ⟨hb.os, hb.tape, hb.output, hb.size, fun k hk _ => hb.block k hk⟩ (by cases hv : v.ownBlock <;> simp)

theorem own_base {W : World} {base base' e sz n : Nat} {v : Value} {xs : List Value} (h : W.ownsRow base e sz v n xs) (hb : base' ≤ base) : W.ownsRow base' e sz v n xs := by
  refine ⟨h.1, ?_⟩
  rcases h.2 with h | ⟨g, c, cur, h1, h2, h3⟩
  · exact .inl h
  · exact .inr ⟨g, c, cur, h1, Nat.le_trans hb h2, h3⟩

theorem own_slice {w : World} {base : Nat} {e : TypeId} {size n : Nat} {v : Value} {xs : List Value} (h : w.ownsRow base e size v n xs) : ∃ a c, v = .slice a n c := by
  rcases h.2 with ⟨rfl, rfl⟩ | ⟨g, c, cur, rfl, _⟩
  · exact ⟨none, 0, rfl⟩
  · exact ⟨some ⟨g, 0, none⟩, c, rfl⟩

theorem run_append_bs {w : World} {base n : Nat} {v : Value} {xs : List Value} {a : Option Addr} {len cap : Nat} {zs : List Int} (ty : TypeId)
    (hown : w.ownsRow base 5 1 v n xs) (hbs : Bs w a len cap zs) (hn : n + len ≤ 140737488355328) (hbase : base ≤ w.heap.size) :
    ∃ v' w', (Builtin.append_ #[38, 38] ty #[v, .slice a len cap]).run Tryz.prog w = .ok v' w' ∧ w'.ownsRow base 5 1 v' (n + len) (xs ++ zs.map (Value.int .u8)) ∧ w.grownBy w' v.ownBlock := by
  obtain ⟨i0, hi, hz0, hz1, hz2⟩ := info_parts Tryz.info5
  obtain ⟨h1, h2, h3, h4, h5, h6⟩ := hbs
  cases a with
  | none =>
    have hc := h5 rfl
    have hl : len = 0 := by omega
    subst hc hl
    have hz : zs = [] := List.eq_nil_of_length_eq_zero h1
    subst hz
    refine ⟨v, w, run_append_owned_none w base 38 ty 5 i0 1 Tryz.underlying38 hi v n xs hown, by simpa using hown, ⟨rfl, rfl, rfl, Nat.le_refl _, fun _ _ _ => rfl⟩⟩
  | some ad =>
    obtain ⟨v', w', hr, ho, hg, _⟩ := run_append_own (P := Tryz.prog) w base 38 ty 5 i0 (.int .u8 0) 1 1 Tryz.underlying38 hi hz0 hz1 hz2 rfl (by decide) v n xs hown ad len cap (zs.map (Value.int .u8)) (by simp [h1])
      (fun j u hj => by
        rcases Nat.lt_or_ge j len with h | h
        · obtain ⟨b, off, e, _, hc⟩ := h6 (by omega)
          simp at e
          subst e
          have hp : (⟨b, off, none⟩ : Addr).add j = ⟨b, off + j, none⟩ := by unfold Addr.add; split <;> simp_all
          rw [hp, hc j h]
          simp [List.getElem?_eq_getElem (show j < zs.length by omega), List.getD] at hj ⊢
          exact hj
        · simp [List.getElem?_eq_none (show zs.length ≤ j by omega)] at hj)
      (ints_one zs) (by unfold maxLen; omega) (by omega) hbase
    exact ⟨v', w', hr, ho, hg⟩

theorem wp_append_bs {w : World} {o : Oper} {f : Act} {K : Act → World → Prop} {Q : Exit → Act → World → Prop} (s x : Operand)
    (ho : o.op = .call { callee := .builtin .append, args := #[s, x], argTypes := #[38, 38] }) (base : Nat) (v : Value) (n : Nat) (xs : List Value) (a : Option Addr) (len cap : Nat) (zs : List Int)
    (hs : f.eval s = v) (hx : f.eval x = .slice a len cap) (hown : w.ownsRow base 5 1 v n xs) (hbs : Bs w a len cap zs) (hn : n + len ≤ 140737488355328) (hbase : base ≤ w.heap.size)
    (h : ∀ v' w', w'.ownsRow base 5 1 v' (n + len) (xs ++ zs.map (Value.int .u8)) → w.grownBy w' v.ownBlock → K (f.put o.dst v') w') : o.wp Tryz.prog f w K Q := by
  obtain ⟨v', w', hrun, h1, h2⟩ := run_append_bs (ty := o.type) hown hbs hn hbase
  unfold Oper.wp
  simp [execOp, ho, resolve, invoke, builtin, hs, hx, hrun, Result.andThen]
  exact h v' w' h1 h2

theorem wpList_append_bs {w : World} {ops : Array Oper} {rest : List Oper} {o : Oper} {f : Act} {Q : Exit → Act → World → Prop} (hgd : o.guard = none) (s x : Operand)
    (ho : o.op = .call { callee := .builtin .append, args := #[s, x], argTypes := #[38, 38] }) (base : Nat) (v : Value) (n : Nat) (xs : List Value) (a : Option Addr) (len cap : Nat) (zs : List Int)
    (hs : f.eval s = v) (hx : f.eval x = .slice a len cap) (hown : w.ownsRow base 5 1 v n xs) (hbs : Bs w a len cap zs) (hn : n + len ≤ 140737488355328) (hbase : base ≤ w.heap.size)
    (h : ∀ v' w', w'.ownsRow base 5 1 v' (n + len) (xs ++ zs.map (Value.int .u8)) → w.grownBy w' v.ownBlock → wpList Tryz.prog ops Q rest (f.put o.dst v') w') : wpList Tryz.prog ops Q (o :: rest) f w := by
  refine wpList_plain hgd fun K hK => ?_
  exact wp_append_bs s x ho base v n xs a len cap zs hs hx hown hbs hn hbase (fun v' w' h1 h2 => hK _ _ (h v' w' h1 h2))

open Go.ChangeShapes Go.WideShapes Go.ChangeAt
theorem bs_open {H : Type} {enc : TypeId × Value → H} {W : World} {a : Option Addr} {len cap fuel : Nat} {x : DataW H × List MemPlace}
    (hf : DataW.trod enc Tryz.prog W 0 (fun _ => true) true fuel 38 [.slice a len cap] = some x) : ∃ zs, Bs W a len cap zs := by
  rcases open_ints Tryz.underlying38 Tryz.underlying5 (by kernel_rfl) hf with ⟨hcs, _⟩ | ⟨y, l, c, zs, hcs, _, hl, hm, hz, _, hcell, hwz⟩
  · simp at hcs
    obtain ⟨rfl, rfl, rfl⟩ := hcs
    exact ⟨_, Bs.of_row (zs := []) (.inl ⟨rfl, rfl, rfl, rfl⟩)⟩
  · simp at hcs
    obtain ⟨rfl, rfl, rfl⟩ := hcs
    exact ⟨_, Bs.of_row (zs := zs) (.inr ⟨_, rfl, hl, hm, by simpa using hz, hcell, hwz⟩)⟩

theorem u8_inj {a b : Int} (ha : 0 ≤ a ∧ a ≤ 255) (hb : 0 ≤ b ∧ b ≤ 255) (h : UInt8.ofNat a.toNat = UInt8.ofNat b.toNat) : a = b := by
  have e := congrArg UInt8.toNat h
  simp only [UInt8.toNat_ofNat'] at e
  omega

theorem u8s_inj : ∀ (a b : List Int), (∀ c ∈ a, 0 ≤ c ∧ c ≤ 255) → (∀ c ∈ b, 0 ≤ c ∧ c ≤ 255) → (a.map fun n => UInt8.ofNat n.toNat) = (b.map fun n => UInt8.ofNat n.toNat) → a = b
  | [], [], _, _, _ => rfl
  | [], y :: b, _, _, h => by simp at h
  | x :: a, [], _, _, h => by simp at h
  | x :: a, y :: b, ha, hb, h => by
    simp only [List.map_cons, List.cons.injEq] at h
    rw [u8_inj (ha x (by simp)) (hb y (by simp)) h.1, u8s_inj a b (fun c hc => ha c (by simp [hc])) (fun c hc => hb c (by simp [hc])) h.2]

theorem str_eq {z1 z2 : List Int} (h1 : ∀ c ∈ z1, 0 ≤ c ∧ c ≤ 255) (h2 : ∀ c ∈ z2, 0 ≤ c ∧ c ≤ 255) : ((strOfNums z1).toList == (strOfNums z2).toList) = (z1 == z2) := by
  rw [ByteArray.toList_eq, ByteArray.toList_eq, strOfNums_data, strOfNums_data, Bool.eq_iff_iff]
  simp only [beq_iff_eq]
  exact ⟨u8s_inj z1 z2 h1 h2, fun h => by rw [h]⟩

theorem ret_bool {a b : Bool} (h : a = b) : Ending.returned (.bool a) = .returned (.bool b) := by rw [h]

end Go.Proofs.YtafmoceinamcdaaGreat

namespace Go.Proofs.YtafmoceinamcdaaGreat
open Go.RowKit

theorem str_at (zs : List Int) (hz : ∀ i, 0 ≤ zs.getD i 0 ∧ zs.getD i 0 ≤ 255) (k : Nat) (h : k < (strOfNums zs).size) : (((strOfNums zs)[k]'h).toNat : Int) = zs.getD k 0 := by
  have hk : k < zs.length := by rw [strOfNums_size] at h; exact h
  have := hz k
  show ((((zs.map fun n => UInt8.ofNat n.toNat).toArray)[k]'(by simpa using hk)).toNat : Int) = _
  simp only [List.getElem_toArray, List.getElem_map]
  simp only [List.getD, List.getElem?_eq_getElem hk, Option.getD_some] at this ⊢
  simp
  omega

end Go.Proofs.YtafmoceinamcdaaGreat

namespace Go.Proofs.YtafmoceinamcdaaGreat
open Go.RowKit
set_option linter.unusedVariables false

theorem str_list (zs : List Int) : (strOfNums zs).toList = zs.map fun n => UInt8.ofNat n.toNat := by rw [ByteArray.toList_eq]; rfl

theorem str_ne (c : Int) (r : List Int) : ((strOfNums (c :: r)).toList == []) = false := by rw [str_list]; rfl

theorem str_cut (zs : List Int) (a b : Nat) : (strOfNums zs).extract a b = strOfNums ((zs.drop a).take (b - a)) := by
  unfold strOfNums
  rw [ByteArray.extract_mk, List.map_take, List.map_drop]

end Go.Proofs.YtafmoceinamcdaaGreat

namespace Go.Proofs.YtafmoceinamcdaaGreat
open Go.RowKit
set_option linter.unusedVariables false
set_option linter.unusedSimpArgs false

theorem str_nums (s : ByteArray) : ∃ z : List Int, s = strOfNums z ∧ ∀ i, 0 ≤ z.getD i 0 ∧ z.getD i 0 ≤ 255 := by
  refine ⟨s.data.toList.map fun x => (x.toNat : Int), ?_, getD_bd ?_⟩
  · apply ByteArray.ext
    apply Array.ext'
    rw [strOfNums_data, List.map_map]
    conv => lhs; rw [← List.map_id s.data.toList]
    apply List.map_congr_left
    intro x _
    simp
  · intro c hc
    obtain ⟨x, _, rfl⟩ := List.mem_map.1 hc
    have := x.toNat_lt
    omega

theorem drop_at {l : List Int} {k : Nat} (h : k < l.length) : l.drop k = l.getD k 0 :: l.drop (k + 1) := by
  rw [List.drop_eq_getElem_cons h]
  simp [List.getD, List.getElem?_eq_getElem h]

set_option maxHeartbeats 1000000 in
theorem rletter_any (c : Int) (w : World) (h0 : 0 ≤ c) (h1 : c ≤ 255) :
    Calls Tryz.prog 108 #[.int .u8 c] w fun e w' => e = .returned (.bool (lletter c)) ∧ w = w' := by
  by_cases k95 : c = 95
  · have E : Hid (lletter c = true) := decide_eq_true (by omega)
    subst k95
    go_enter Tryz.func108, Tryz.ntmps108
    go_wp2
    go_ret
    exact ⟨by rw [E.out]; first | rfl | exact ret_bool (by simp; omega), rfl⟩
  have e95 : (c == 95) = false := by simpa using k95
  rcases (show (97 ≤ c ∧ c ≤ 122) ∨ (65 ≤ c ∧ c ≤ 90) ∨ (48 ≤ c ∧ c ≤ 57) ∨ c < 48 ∨ (57 < c ∧ c < 65) ∨ (90 < c ∧ c < 97) ∨ 122 < c by omega) with h | h | h | h | h | h | h
  · have E : Hid (lletter c = true) := decide_eq_true (by omega)
    obtain ⟨p1, p2⟩ := h
    go_enter Tryz.func108, Tryz.ntmps108
    go_wp2
    go_ret
    exact ⟨by rw [E.out]; first | rfl | exact ret_bool (by simp; omega), rfl⟩
  · have E : Hid (lletter c = true) := decide_eq_true (by omega)
    obtain ⟨p1, p2⟩ := h
    go_enter Tryz.func108, Tryz.ntmps108
    go_wp2
    go_ret
    exact ⟨by rw [E.out]; first | rfl | exact ret_bool (by simp; omega), rfl⟩
  · have E : Hid (lletter c = true) := decide_eq_true (by omega)
    obtain ⟨p1, p2⟩ := h
    go_enter Tryz.func108, Tryz.ntmps108
    go_wp2
    go_ret
    exact ⟨by rw [E.out]; first | rfl | exact ret_bool (by simp; omega), rfl⟩
  · have E : Hid (lletter c = false) := decide_eq_false (by omega)
    go_enter Tryz.func108, Tryz.ntmps108
    go_wp2
    go_ret
    exact ⟨by rw [E.out]; first | rfl | exact ret_bool (by simp; omega), rfl⟩
  · have E : Hid (lletter c = false) := decide_eq_false (by omega)
    obtain ⟨p1, p2⟩ := h
    go_enter Tryz.func108, Tryz.ntmps108
    go_wp2
    go_ret
    exact ⟨by rw [E.out]; first | rfl | exact ret_bool (by simp; omega), rfl⟩
  · have E : Hid (lletter c = false) := decide_eq_false (by omega)
    obtain ⟨p1, p2⟩ := h
    go_enter Tryz.func108, Tryz.ntmps108
    go_wp2
    go_ret
    exact ⟨by rw [E.out]; first | rfl | exact ret_bool (by simp; omega), rfl⟩
  · have E : Hid (lletter c = false) := decide_eq_false (by omega)
    go_enter Tryz.func108, Tryz.ntmps108
    go_wp2
    go_ret
    exact ⟨by rw [E.out]; first | rfl | exact ret_bool (by simp; omega), rfl⟩

set_option maxHeartbeats 400000 in
theorem rnumber_any (c : Int) (w : World) (h0 : 0 ≤ c) (h1 : c ≤ 255) :
    Calls Tryz.prog 109 #[.int .u8 c] w fun e w' => e = .returned (.bool (lnumb c)) ∧ w = w' := by
  rcases (show (48 ≤ c ∧ c ≤ 57) ∨ c < 48 ∨ 57 < c by omega) with h | h | h
  · have E : Hid (lnumb c = true) := decide_eq_true (by omega)
    obtain ⟨p1, p2⟩ := h
    go_enter Tryz.func109, Tryz.ntmps109
    go_wp2
    go_ret
    exact ⟨by rw [E.out]; first | rfl | exact ret_bool (by simp; omega), rfl⟩
  · have E : Hid (lnumb c = false) := decide_eq_false (by omega)
    go_enter Tryz.func109, Tryz.ntmps109
    go_wp2
    go_ret
    exact ⟨by rw [E.out]; first | rfl | exact ret_bool (by simp; omega), rfl⟩
  · have E : Hid (lnumb c = false) := decide_eq_false (by omega)
    go_enter Tryz.func109, Tryz.ntmps109
    go_wp2
    go_ret
    exact ⟨by rw [E.out]; first | rfl | exact ret_bool (by simp; omega), rfl⟩

theorem run_cut (S : ByteArray) (i j : Nat) (ii jj : Int) (hi : ii = (i : Int)) (hj : jj = (j : Int)) (h1 : i ≤ j) (h2 : j ≤ S.size) :
    ∀ W, (Instr.slice 9 (.string S) (some (.int .i64 ii)) (some (.int .i64 jj)) none).run Tryz.prog W = .ok (.string (S.extract i j)) W := fun W => by
  subst hi hj
  rw [run_slice_string W 9 S .i64 .i64 (i : Int) (j : Int) Tryz.underlying9 (by omega) (by omega) (by omega)]
  simp

theorem run_cut_to (S : ByteArray) (i : Nat) (ii : Int) (hi : ii = (i : Int)) (h1 : i ≤ S.size) :
    ∀ W, (Instr.slice 9 (.string S) (some (.int .i64 ii)) none none).run Tryz.prog W = .ok (.string (S.extract i S.size)) W := fun W => by
  subst hi
  rw [run_slice_string_l W 9 S Tryz.underlying9 .i64 (i : Int) (by omega) (by omega)]
  simp

end Go.Proofs.YtafmoceinamcdaaGreat

namespace Go.Proofs.YtafmoceinamcdaaGreat
open Go.RowKit
set_option linter.unusedVariables false

theorem str_app (a b : List Int) : strOfNums a ++ strOfNums b = strOfNums (a ++ b) := by
  unfold strOfNums
  rw [ByteArray.mk_append_mk, List.map_append]

theorem run_add (w : World) (a b : List Int) (h : a.length + b.length ≤ 9223372036854775807) : (Op.stringOp .add (strOfNums a) (strOfNums b)).run Tryz.prog w = .ok (.string (strOfNums (a ++ b))) w := by
  rw [run_string_add_sum w _ _ (by rw [strOfNums_size, strOfNums_size]; exact h), str_app]

end Go.Proofs.YtafmoceinamcdaaGreat

namespace Go.Proofs.YtafmoceinamcdaaGreat
open Go.RowKit
set_option linter.unusedVariables false
set_option linter.unusedSimpArgs false

theorem nident_big (s : List Int) (h : 200 < s.length ∨ s.length = 0) : nident s = false := by
  unfold nident
  rw [decide_eq_false (by omega)]
  simp

theorem nident_bad (s : List Int) (k : Nat) (hk : k < s.length) (h : lletter (s.getD k 0) = false) : nident s = false := by
  unfold nident
  have : s.all lletter = false := by
    rw [List.all_eq_false]
    refine ⟨s[k], List.getElem_mem hk, ?_⟩
    rw [show s.getD k 0 = s[k] by simp [List.getD, hk]] at h
    rw [h]; decide
  rw [this]; rfl

theorem nident_good (s : List Int) (h : ∀ k, k < s.length → lletter (s.getD k 0) = true) (h1 : 1 ≤ s.length) (h2 : s.length ≤ 200) : nident s = !lnumb (s.getD 0 0) := by
  unfold nident
  have : s.all lletter = true := by
    rw [List.all_eq_true]
    intro c hc
    obtain ⟨k, hk, rfl⟩ := List.getElem_of_mem hc
    have := h k hk
    rwa [show s.getD k 0 = s[k] by simp [List.getD, hk]] at this
  rw [this, decide_eq_true ⟨h1, h2⟩]; rfl

set_option maxHeartbeats 1000000 in
theorem rident_any (s : List Int) (w : World) (hz : Hid (∀ i, 0 ≤ s.getD i 0 ∧ s.getD i 0 ≤ 255)) (hlen : (s.length : Int) ≤ 9223372036854775807) :
    Calls Tryz.prog 62 #[.string (strOfNums s)] w fun e w' => e = .returned (.bool (nident s)) ∧ w = w' := by
  have hsz := strOfNums_size s
  have HA : Hid (∀ k, (h : k < s.length) → (((strOfNums s)[k]'(by rw [hsz]; exact h)).toNat : Int) = s.getD k 0) := fun k h => str_at s hz.out k _
  generalize strOfNums s = S at hsz HA
  go_enter Tryz.func62, Tryz.ntmps62
  go_wp2
  go_loopw [3] (fun v wr => ∃ k : Nat, v = .int .i64 (k : Int) ∧ k ≤ s.length ∧ Hid (∀ j, j < k → lletter (s.getD j 0) = true) ∧ w = wr) (fun v _ => s.length - (intOf v).toNat)
  case atStart => exact ⟨0, rfl, by omega, fun j hj => absurd hj (by omega), rfl⟩
  case round =>
    obtain ⟨k, rfl, hk, HJ, rfl⟩ := hrel
    by_cases hkl : k < s.length
    · have hat := HA.out k hkl
      have hcb := hz.out k
      obtain ⟨c, hc⟩ : ∃ c, c = s.getD k 0 := ⟨_, rfl⟩
      have HC : Hid (c = s.getD k 0) := hc
      rw [← hc] at hat hcb
      obtain ⟨c0, c255⟩ := hcb
      have q := fun W => rletter_any c W c0 c255
      clear hc
      by_cases hl : lletter c = true
      · rw [hl] at q
        have Q : Hid _ := q
        have HJ2 : Hid (∀ j, j < k + 1 → lletter (s.getD j 0) = true) := fun j hj => by
          by_cases e : j = k
          · rw [e, ← HC.out]; exact hl
          · exact HJ.out j (by omega)
        clear q hl HJ
        go_wp2_with fail
        refine Calls.mono (Q.out _) ?_
        rintro e w1 ⟨rfl, rfl⟩
        go_wp2
        go_roundw
        case rel => first | exact ⟨k + 1, by go_num, by omega, HJ2, by first | rfl | trivial⟩ | ((repeat apply Exists.intro); exact ⟨⟨k + 1, by go_num, by omega, HJ2, by first | rfl | trivial⟩, rfl⟩)
        case measure => simp [intOf]; omega
      · have hl' : lletter c = false := by simpa using hl
        rw [hl'] at q
        have Q : Hid _ := q
        have E : Hid (nident s = false) := nident_bad s k hkl (by rw [← HC.out]; exact hl')
        clear q hl hl' HJ
        go_wp2_with fail
        refine Calls.mono (Q.out _) ?_
        rintro e w1 ⟨rfl, rfl⟩
        go_wp2
        go_ret
        exact ⟨by rw [E.out]; rfl, rfl⟩
    · obtain rfl : k = s.length := by omega
      by_cases h0 : s.length = 0
      · have E : Hid (nident s = false) := nident_big s (.inr h0)
        have h1 : ¬ (1 : Int) ≤ (s.length : Int) := by omega
        clear HJ h0
        go_wp2
        go_ret
        exact ⟨by rw [E.out]; rfl, rfl⟩
      · have h1 : (1 : Int) ≤ (s.length : Int) := by omega
        by_cases h2 : s.length ≤ 200
        · have h2' : (s.length : Int) ≤ 200 := by omega
          have hat := HA.out 0 (by omega)
          have hcb := hz.out 0
          have E : Hid (nident s = !lnumb (s.getD 0 0)) := nident_good s HJ.out (by omega) h2
          generalize s.getD 0 0 = c at hat hcb E
          obtain ⟨c0, c255⟩ := hcb
          have Q : Hid _ := fun W => rnumber_any c W c0 c255
          clear HJ
          go_wp2_with fail
          refine Calls.mono (Q.out _) ?_
          rintro e w1 ⟨rfl, rfl⟩
          go_wp2
          go_ret
          exact ⟨by rw [E.out]; rfl, rfl⟩
        · have h2' : ¬ (s.length : Int) ≤ 200 := by omega
          have E : Hid (nident s = false) := nident_big s (.inl (by omega))
          clear HJ
          go_wp2
          go_ret
          exact ⟨by rw [E.out]; rfl, rfl⟩

set_option maxHeartbeats 1000000 in
theorem rjoin_any (a b : List Int) (w : World) (hl : a.length + b.length ≤ 1000000) :
    Calls Tryz.prog 106 #[.string (strOfNums a), .string (strOfNums b)] w fun e w' => e = .returned (.string (strOfNums (njoin a b))) ∧ w = w' := by
  unfold njoin
  by_cases h : a = []
  · rw [if_pos h]
    have hne : ((strOfNums a).toList == []) = true := by rw [h, str_list]; rfl
    generalize strOfNums a = A at hne
    generalize strOfNums b = B
    go_enter Tryz.func106, Tryz.ntmps106
    go_wp2
    go_ret
    exact ⟨rfl, rfl⟩
  · rw [if_neg h]
    have hne : ((strOfNums a).toList == []) = false := by
      cases a with
      | nil => exact absurd rfl h
      | cons c r => exact str_ne c r
    have h1 : ∀ W, (Op.stringOp .add (strOfNums a) { data := #[46] }).run Tryz.prog W = .ok (.string (strOfNums (a ++ [46]))) W := fun W => run_add W a [46] (by simp; omega)
    have h2 : ∀ W, (Op.stringOp .add (strOfNums (a ++ [46])) (strOfNums b)).run Tryz.prog W = .ok (.string (strOfNums (a ++ [46] ++ b))) W := fun W => run_add W (a ++ [46]) b (by simp; omega)
    clear h
    generalize strOfNums (a ++ [46] ++ b) = R at h2
    generalize strOfNums (a ++ [46]) = AP at h1 h2
    generalize strOfNums a = A at hne h1
    generalize strOfNums b = B at h2
    go_enter Tryz.func106, Tryz.ntmps106
    go_wp2
    go_ret
    exact ⟨rfl, rfl⟩

theorem run_head (s : List Int) (k : Nat) (hk : k ≤ s.length) (hl : (s.length : Int) ≤ 9223372036854775807) : ∀ W, (Instr.slice 9 (.string (strOfNums s)) none (some (.int .i64 (k : Int))) none).run Tryz.prog W = .ok (.string (strOfNums (s.take k))) W := fun W => by
  have hsz := strOfNums_size s
  rw [run_slice_string_h (P := Tryz.prog) W 9 (strOfNums s) Tryz.underlying9 .i64 (k : Int) (by omega) (by omega)]
  rw [Int.toNat_natCast, str_cut]
  simp

theorem run_tail (s : List Int) (k : Nat) (hk : k ≤ s.length) (ii : Int) (hi : ii = (k : Int)) : ∀ W, (Instr.slice 9 (.string (strOfNums s)) (some (.int .i64 ii)) none none).run Tryz.prog W = .ok (.string (strOfNums (s.drop k))) W := fun W => by
  rw [run_cut_to (strOfNums s) k ii hi (by rw [strOfNums_size]; exact hk) W, str_cut, strOfNums_size, List.take_of_length_le (by simp)]

set_option maxHeartbeats 1000000 in
theorem rparent_any (s : List Int) (w : World) (hz : Hid (∀ i, 0 ≤ s.getD i 0 ∧ s.getD i 0 ≤ 255)) (hlen : (s.length : Int) ≤ 1000000) :
    Calls Tryz.prog 107 #[.string (strOfNums s)] w fun e w' => e = .returned (.tuple #[.string (strOfNums (nparent s).1), .string (strOfNums (nparent s).2)]) ∧ Below w.heap.size w w' := by
  obtain ⟨X, hX⟩ : ∃ X, X = strOfNums s := ⟨_, rfl⟩
  have hsz : X.size = s.length := by rw [hX]; exact strOfNums_size s
  have HA : Hid (∀ k, (h : k < s.length) → ((X[k]'(hsz ▸ h)).toNat : Int) = s.getD k 0) := fun k h => by subst hX; exact str_at s hz.out k _
  have HH : Hid (∀ k, k ≤ s.length → ∀ W, (Instr.slice 9 (.string X) none (some (.int .i64 (k : Int))) none).run Tryz.prog W = .ok (.string (strOfNums (s.take k))) W) := fun k hk => by subst hX; exact run_head s k hk (by omega)
  have HT : Hid (∀ k, k + 1 ≤ s.length → ∀ W, (Instr.slice 9 (.string X) (some (.int .i64 ((k : Int) + 1))) none none).run Tryz.prog W = .ok (.string (strOfNums (s.drop (k + 1)))) W) := fun k hk => by subst hX; exact run_tail s (k + 1) hk _ (by omega)
  have HX : Hid (X = strOfNums s) := hX
  rw [← hX]
  clear hX
  go_enter Tryz.func107, Tryz.ntmps107
  go_wp2
  go_loopw [4] (fun v wr => ∃ k : Nat, v = .int .i64 ((k : Int) - 1) ∧ k ≤ s.length ∧ Hid (nlast s s.length = nlast s k) ∧ w = wr) (fun v _ => (intOf v + 1).toNat)
  case atStart => exact ⟨s.length, rfl, by omega, rfl, rfl⟩
  case round =>
    obtain ⟨k, rfl, hk, HJ, rfl⟩ := hrel
    cases k with
    | zero =>
      have E : Hid (nparent s = ([], s)) := by
        show _ = _
        unfold nparent
        rw [HJ.out]
        rfl
      clear HJ
      go_wp2
      go_ret2
      refine ⟨?_, Below.refl _ _⟩
      rw [E.out, ← HX.out]
      rfl
    | succ k =>
      rw [show (((k + 1 : Nat) : Int) - 1) = (k : Int) by omega]
      have hat := HA.out k (by omega)
      have HJ' := HJ.out
      rw [nlast] at HJ'
      by_cases h46 : s.getD k 0 = 46
      · rw [if_pos h46] at HJ'
        rw [h46] at hat
        have E : Hid (nparent s = (s.take k, s.drop (k + 1))) := by
          show _ = _
          unfold nparent
          rw [HJ', if_neg (by omega), Nat.add_sub_cancel]
        have h1 := HH.out k (by omega)
        have h2 := HT.out k (by omega)
        obtain ⟨A, hA1⟩ : ∃ A, A = strOfNums (s.take k) := ⟨_, rfl⟩
        obtain ⟨B, hB1⟩ : ∃ B, B = strOfNums (s.drop (k + 1)) := ⟨_, rfl⟩
        rw [← hA1] at h1
        rw [← hB1] at h2
        have HA1 : Hid (A = strOfNums (s.take k)) := hA1
        have HB1 : Hid (B = strOfNums (s.drop (k + 1))) := hB1
        clear hA1 hB1
        clear HJ HJ' h46
        go_wp2
        go_quiet (fail)
        rename_i K _ hK
        refine hK _ _ ?_
        go_wp2
        go_ret2
        refine ⟨?_, below_drewN (Below.refl _ _) _⟩
        rw [E.out]
        simp only
        rw [← HA1.out, ← HB1.out]
        rfl
      · rw [if_neg h46] at HJ'
        have HJ2 : Hid _ := HJ'
        generalize s.getD k 0 = c at hat h46
        have e46 : (c == 46) = false := by simpa using h46
        clear HJ HJ'
        go_wp2
        go_roundw
        case rel => first | exact ⟨k, rfl, by omega, HJ2, by first | rfl | trivial⟩ | ((repeat apply Exists.intro); exact ⟨⟨k, rfl, by omega, HJ2, by first | rfl | trivial⟩, rfl⟩)
        case measure => first | (simp [intOf]; done) | (simp [intOf]; omega)

def scell (z : List Int) : Value := .string (strOfNums z)

def byts (z : List Int) : Prop := ∀ c ∈ z, 0 ≤ c ∧ c ≤ 255

def Ss (w : World) (a : Option Addr) (len cap : Nat) (zs : List (List Int)) : Prop :=
  zs.length = len ∧ (len : Int) ≤ 9223372036854775807 ∧ len ≤ cap ∧ (a = none → cap = 0) ∧ (∀ z ∈ zs, byts z) ∧
    (0 < len → ∃ b off, a = some ⟨b, off, none⟩ ∧ b < w.heap.size ∧ ∀ i z, zs[i]? = some z → w.cell? ⟨b, off + i, none⟩ = some (scell z))

def So (w : World) (base : Nat) (v : Value) (zs : List (List Int)) : Prop := w.ownsRow base 9 1 v zs.length (zs.map scell) ∧ ∀ z ∈ zs, byts z

theorem So.nil (w : World) (base : Nat) : So w base (.slice none 0 0) [] := ⟨World.ownsRow_nil _ _ _ _, by simp⟩

theorem So.below {w w' : World} {base : Nat} {v : Value} {zs : List (List Int)} (h : So w base v zs) (hb : Below w.heap.size w w') : So w' base v zs := ⟨own_below h.1 hb, h.2⟩

theorem So.slice {w : World} {base : Nat} {v : Value} {zs : List (List Int)} (h : So w base v zs) : ∃ a c, v = .slice a zs.length c := own_slice h.1

theorem Ss.of_own {w : World} {base : Nat} {a : Option Addr} {len cap : Nat} {zs : List (List Int)} (h : So w base (.slice a len cap) zs) : Ss w a len cap zs := by
  obtain ⟨ho, hr⟩ := h
  rcases ho.2 with ⟨he, hn⟩ | ⟨g, c, cur, he, hg, hh, h1, h2, h3, h4⟩
  · simp at he
    obtain ⟨rfl, rfl, rfl⟩ := he
    exact ⟨hn, by omega, Nat.le_refl _, fun _ => rfl, hr, fun h => absurd h (by omega)⟩
  · simp at he
    obtain ⟨rfl, rfl, rfl⟩ := he
    refine ⟨rfl, by unfold maxLen at h2; omega, h1, fun h => by simp at h, hr, fun _ => ⟨g, 0, rfl, (ho.lt g rfl).2, fun i z hi => ?_⟩⟩
    have hil : i < zs.length := (List.getElem?_eq_some_iff.1 hi).1
    have := ho.cellAt i (by omega)
    rw [Nat.zero_add, this]
    simp [hi]

theorem Tryz.infoStr : (Tryz.prog.info? 9).map (fun i => (i.zero, i.size, i.bytes)) = some (some (.string { data := #[] }), 1, 16) := by kernel_rfl

theorem wpList_append_s {w : World} {ops : Array Oper} {rest : List Oper} {o : Oper} {f : Act} {Q : Exit → Act → World → Prop} (hgd : o.guard = none) (s x : Operand)
    (ho : o.op = .call { callee := .builtin .append, args := #[s, x], argTypes := #[30, 30] }) (base : Nat) (v : Value) (zs : List (List Int)) (z : List Int) (b cap : Nat)
    (hs : f.eval s = v) (hx : f.eval x = .slice (some ⟨b, 0, none⟩) 1 cap) (hown : So w base v zs) (hz : byts z) (hc : w.cell? ⟨b, 0, none⟩ = some (scell z)) (hn : zs.length + 1 ≤ 1000000) (hbase : base ≤ w.heap.size)
    (h : ∀ v' w', So w' base v' (zs ++ [z]) → w.grownBy w' v.ownBlock → wpList Tryz.prog ops Q rest (f.put o.dst v') w') : wpList Tryz.prog ops Q (o :: rest) f w := by
  refine wpList_plain hgd fun K hK => ?_
  obtain ⟨i0, hi, hz0, hz1, hz2⟩ := info_parts Tryz.infoStr
  obtain ⟨v', w', hrun, h1, h2, _⟩ := run_append_own (P := Tryz.prog) w base 30 o.type 9 i0 _ 1 16 Tryz.underlying30 hi hz0 hz1 hz2 rfl (by decide) v zs.length _ hown.1 ⟨b, 0, none⟩ 1 cap [scell z] rfl
    (fun j u hj => by
      match j, hj with
      | 0, hj => simp at hj; subst hj; simpa [Addr.add] using hc)
    (fun u hu => by simp at hu; subst hu; rfl) (by unfold maxLen; omega) (by omega) hbase
  unfold Oper.wp
  simp [execOp, ho, resolve, invoke, builtin, hs, hx, hrun, Result.andThen]
  refine hK _ _ (h v' w' ⟨by simpa using h1, fun u hu => ?_⟩ h2)
  rcases List.mem_append.1 hu with hu | hu
  · exact hown.2 u hu
  · simp at hu; subst hu; exact hz

theorem So.grown {w w0 w' : World} {base : Nat} {v : Value} {zs : List (List Int)} (h : So w base v zs) (hB : Below base w0 w) (hb : base ≤ w.heap.size) (hg : w.grownBy w' v.ownBlock) : Below base w0 w' :=
  hB.grown hg hb (fun k hk => (h.1.lt k hk).1)

theorem str_cell (W : World) (s : ByteArray) : (W.alloc (.cells #[.string s] 9)).cell? ⟨W.heap.size, 0, none⟩ = some (.string s) := by
  rw [World.cell?_alloc_new]; rfl

set_option maxHeartbeats 1000000 in
theorem rin_any {w : World} {a : Option Addr} {len cap : Nat} {zs : List (List Int)} (s : List Int) (hS : Hid (Ss w a len cap zs)) (hs : Hid (byts s)) :
    Calls Tryz.prog 60 #[.slice a len cap, .string (strOfNums s)] w fun e w' => e = .returned (.bool (decide (s ∈ zs))) ∧ w = w' := by
  obtain ⟨h1, h2, h3, h4, h5, h6⟩ := hS.out
  have H1 : Hid (zs.length = len) := h1
  have H5 : Hid (∀ z ∈ zs, byts z) := h5
  have H6 : Hid _ := h6
  clear h1 h5 h6
  go_enter Tryz.func60, Tryz.ntmps60
  go_wp2
  go_loopw [9] (fun v wr => ∃ k : Nat, v = .int .i64 (k : Int) ∧ k ≤ len ∧ Hid (∀ j, j < k → zs[j]? ≠ some s) ∧ w = wr) (fun v _ => len - (intOf v).toNat)
  case atStart => exact ⟨0, rfl, by omega, fun j hj => absurd hj (by omega), rfl⟩
  case round =>
    obtain ⟨k, rfl, hk, HJ, rfl⟩ := hrel
    by_cases hkl : k < len
    · obtain ⟨b, off, rfl, hlt, hc⟩ := H6.out (by omega)
      obtain ⟨z, hz⟩ : ∃ z, zs[k]? = some z := ⟨zs[k]'(by rw [H1.out]; exact hkl), List.getElem?_eq_getElem (by rw [H1.out]; exact hkl)⟩
      have hcell := hc k z hz
      unfold scell at hcell
      have hzb : byts z := H5.out z (List.mem_of_getElem? hz)
      have heq := str_eq hzb hs.out
      by_cases e : z = s
      · have e' : (z == s) = true := by simpa using e
        rw [e'] at heq
        have E : Hid (decide (s ∈ zs) = true) := decide_eq_true (by rw [← e]; exact List.mem_of_getElem? hz)
        generalize strOfNums z = Z at hcell heq
        generalize strOfNums s = X at heq ⊢
        clear HJ hz e e' hc hzb
        go_wp2
        go_ret
        exact ⟨by rw [E.out]; rfl, rfl⟩
      · have e' : (z == s) = false := by simpa using e
        rw [e'] at heq
        have HJ2 : Hid (∀ j, j < k + 1 → zs[j]? ≠ some s) := fun j hj => by
          by_cases q : j = k
          · rw [q, hz]; simpa using e
          · exact HJ.out j (by omega)
        generalize strOfNums z = Z at hcell heq
        generalize strOfNums s = X at heq ⊢
        clear HJ hz e e' hc hzb
        go_wp2
        go_roundw
        case rel => first | exact ⟨k + 1, by go_num, by omega, HJ2, by first | rfl | trivial⟩ | ((repeat apply Exists.intro); exact ⟨⟨k + 1, by go_num, by omega, HJ2, by first | rfl | trivial⟩, rfl⟩)
        case measure => simp [intOf]; omega
    · obtain rfl : k = len := by omega
      have E : Hid (decide (s ∈ zs) = false) := decide_eq_false fun hm => by
        obtain ⟨j, hj⟩ := List.getElem?_of_mem hm
        exact HJ.out j (by rw [← H1.out]; exact (List.getElem?_eq_some_iff.1 hj).1) hj
      clear HJ
      go_wp2
      go_ret
      exact ⟨by rw [E.out]; rfl, rfl⟩

open Go.ChangeShapes Go.WideShapes Go.ChangeAt
theorem ss_open {H : Type} {enc : TypeId × Value → H} {W : World} {a : Option Addr} {len cap : Nat} {d : DataW H} {ps : List MemPlace}
    (h : DataW.Trod enc Tryz.prog W 0 (fun _ => true) true 30 (.slice a len cap) d ps) : ∃ zs, Ss W a len cap zs := by
  obtain ⟨fuel, hf⟩ := h
  have hf' : DataW.trod enc Tryz.prog W 0 (fun _ => true) true fuel 30 [.slice a len cap] = some (d, ps) := by simpa [Value.cells] using hf
  rcases open_strings Tryz.underlying30 Tryz.underlying9 (by kernel_rfl) hf' with ⟨hcs, _⟩ | ⟨x, l, c, ss, hcs, _, hl, hm, hz, _, hcell, hws⟩
  · simp at hcs
    obtain ⟨rfl, rfl, rfl⟩ := hcs
    exact ⟨[], rfl, by omega, Nat.le_refl _, fun _ => rfl, by simp, fun h => absurd h (by omega)⟩
  · simp at hcs
    obtain ⟨rfl, rfl, rfl⟩ := hcs
    simp only [if_true] at hz
    have hex : ∀ s : ByteArray, ∃ z : List Int, s = strOfNums z ∧ byts z := fun s => by
      obtain ⟨z, h1, h2⟩ := str_nums s
      exact ⟨z, h1, mem_bd h2⟩
    refine ⟨(ss.take len).map (fun s => (hex s).choose), by simp; omega, by unfold maxLen at hm; omega, hl, fun h => by simp at h, ?_, ?_⟩
    · intro z hz
      obtain ⟨s, _, rfl⟩ := List.mem_map.1 hz
      exact (hex s).choose_spec.2
    · intro hp
      obtain ⟨b, off, spot⟩ := x
      have hc0 := hcell 0 (by omega)
      have hspot : spot = none := by simpa [Addr.add] using World.cell?_spot hc0
      subst hspot
      refine ⟨b, off, rfl, ?_, ?_⟩
      · rcases Nat.lt_or_ge b W.heap.size with h | h
        · exact h
        · simp [World.cell?, Addr.add, Array.getElem?_eq_none h] at hc0
      · intro i z hi
        rw [List.getElem?_map] at hi
        cases hs : (ss.take len)[i]? with
        | none => rw [hs] at hi; simp at hi
        | some s =>
          rw [hs] at hi
          simp at hi
          subst hi
          have hil : i < len := by
            have := (List.getElem?_eq_some_iff.1 hs).1
            simp at this
            omega
          have := hcell i (by omega)
          have hp : (⟨b, off, none⟩ : Addr).add i = ⟨b, off + i, none⟩ := by unfold Addr.add; split <;> simp_all
          rw [hp] at this
          rw [this]
          rw [List.getElem?_take, if_pos hil] at hs
          simp only [List.getD, hs, Option.getD_some, scell]
          rw [← (hex s).choose_spec.1]

def txtLen : Value → Nat
  | .string s => s.size
  | _ => 0

theorem njoin_bd (a b : List Int) (ha : byts a) (hb : byts b) : byts (njoin a b) := by
  unfold njoin
  split
  · exact hb
  · intro c hc
    simp only [List.mem_append, List.mem_cons, List.not_mem_nil, or_false] at hc
    rcases hc with (hc | rfl) | hc
    · exact ha c hc
    · omega
    · exact hb c hc

theorem nparent_bd (s : List Int) (h : byts s) : byts (nparent s).1 ∧ byts (nparent s).2 := by
  unfold nparent
  split
  · exact ⟨fun c hc => by simp at hc, h⟩
  · exact ⟨fun c hc => h c (List.mem_of_mem_take hc), fun c hc => h c (List.mem_of_mem_drop hc)⟩

theorem nplc_more (name scope : List Int) (h : scope ≠ []) : nplc name scope.length scope = njoin scope name :: nplc name (nparent scope).1.length (nparent scope).1 := by
  have hl := nparent_lt scope h
  obtain ⟨m, hm⟩ : ∃ m, scope.length = m + 1 := ⟨scope.length - 1, by omega⟩
  rw [hm, nplc, if_neg h, nplc_fuel name m (nparent scope).1.length _ (by omega) (Nat.le_refl _)]

set_option maxHeartbeats 2000000 in
theorem rplaces_any (scope name : List Int) (w : World) (hsb : Hid (byts scope)) (hnb : Hid (byts name)) (hs : scope.length ≤ 10000) (hn : name.length ≤ 10000) :
    Calls Tryz.prog 59 #[.string (strOfNums scope), .string (strOfNums name)] w fun e w' => ∃ v, e = .returned v ∧ So w' w.heap.size v (nplaces scope name) ∧ Below w.heap.size w w' := by
  by_cases hpt : name.getD 0 0 = 46
  · have hne0 : name ≠ [] := fun h => by rw [h] at hpt; simp at hpt
    have hne : ((strOfNums name).toList == []) = false := by
      cases name with
      | nil => exact absurd rfl hne0
      | cons c r => exact str_ne c r
    have hl : 0 < name.length := List.length_pos_iff.2 hne0
    obtain ⟨X, hX⟩ : ∃ X, X = strOfNums name := ⟨_, rfl⟩
    have hsz : X.size = name.length := by rw [hX]; exact strOfNums_size name
    have hat : ((X[0]'(hsz ▸ hl)).toNat : Int) = 46 := by subst hX; rw [← hpt]; exact str_at name (getD_bd hnb.out) 0 _
    have h1 : ∀ W, (Instr.slice 9 (.string X) (some (.int .i64 1)) none none).run Tryz.prog W = .ok (.string (strOfNums (name.drop 1))) W := by subst hX; exact run_tail name 1 (by omega) _ rfl
    have E : Hid (nplaces scope name = [name.drop 1]) := by show _ = _; unfold nplaces; rw [if_pos hpt]
    have HB1 : Hid (byts (name.drop 1)) := fun c hc => hnb.out c (List.mem_of_mem_drop hc)
    rw [← hX] at hne ⊢
    obtain ⟨T, hT⟩ : ∃ T, T = strOfNums (name.drop 1) := ⟨_, rfl⟩
    rw [← hT] at h1
    have HT : Hid (T = strOfNums (name.drop 1)) := hT
    clear hX hpt hne0 hT
    generalize strOfNums scope = A
    go_enter Tryz.func59, Tryz.ntmps59
    go_wp2
    go_ret
    refine ⟨_, rfl, ?_, (Below.refl _ _).alloc (Nat.le_refl _) _⟩
    rw [E.out]
    refine ⟨?_, fun z hz => by simp only [List.mem_cons, List.not_mem_nil, or_false] at hz; subst hz; exact HB1.out⟩
    have := World.ownsRow_lit (base := w.heap.size) (e := 9) (size := 1) w #[.string T] 1 (Nat.le_refl _) (by decide) rfl
    simpa [scell, HT.out] using this
  · have E : Hid (nplaces scope name = nplc name scope.length scope) := by show _ = _; unfold nplaces; rw [if_neg hpt]
    obtain ⟨X, hX⟩ : ∃ X, X = strOfNums name := ⟨_, rfl⟩
    have HX : Hid (X = strOfNums name) := hX
    obtain ⟨R, hR⟩ : ∃ R, R = nplaces scope name := ⟨_, rfl⟩
    rw [← hR, ← hX]
    have HR : Hid (R = [] ++ nplc name scope.length scope) := by show _ = _; rw [hR, E.out]; rfl
    have hsz : X.size = name.length := by rw [hX]; exact strOfNums_size name
    by_cases hn0 : name = []
    · have hne : (X.toList == []) = true := by rw [hX, hn0, str_list]; rfl
      clear hX hR hpt hn0 E
      go_enter Tryz.func59, Tryz.ntmps59
      go_wp2
      go_loopw [0, 5] (fun sv v wr => ∃ (sc : List Int) (o : List (List Int)), sv = .string (strOfNums sc) ∧ o.length + sc.length ≤ 10000 ∧ Hid (byts sc) ∧ Hid (R = o ++ nplc name sc.length sc) ∧ Hid (So wr w.heap.size v o) ∧ Hid (Below w.heap.size w wr)) (fun sv _ _ => txtLen sv)
      case atStart => exact ⟨scope, [], rfl, by simp; omega, hsb, HR, So.nil _ _, Below.refl _ _⟩
      case round =>
        obtain ⟨sc, o, rfl, hol, HSb, HJ, HO, HB⟩ := hrel
        have hbs := HB.out.size
        have hn1 : o.length + 1 ≤ 1000000 := by omega
        by_cases hsc : sc = []
        · have hs0 : ((strOfNums sc).toList == []) = true := by rw [hsc, str_list]; rfl
          have HE : Hid (R = o ++ [name]) := by show _ = _; rw [HJ.out, hsc]; rfl
          have HOA : Hid (So (wr.alloc (.cells #[.string X] 9)) w.heap.size _ o) := HO.out.below ((Below.refl _ _).alloc (Nat.le_refl _) _)
          have HBA : Hid (Below w.heap.size w (wr.alloc (.cells #[.string X] 9))) := HB.out.alloc hbs _
          have HCL : Hid ((wr.alloc (.cells #[.string X] 9)).cell? ⟨wr.heap.size, 0, none⟩ = some (scell name)) := by show _ = some (Value.string (strOfNums name)); rw [← HX.out]; exact str_cell wr X
          generalize strOfNums sc = A at hs0
          clear HJ HR hsc
          go_wp2_with (at_builtin; refine wpList_append_s rfl _ _ rfl w.heap.size _ o name wr.heap.size 1 rfl rfl HOA.out hnb.out HCL.out hn1 HBA.out.size ?_; intro v2 w2 hO2 hgrow2)
          go_ret
          exact ⟨_, rfl, by rw [HE.out]; exact hO2, HOA.out.grown HBA.out HBA.out.size hgrow2⟩
        · have hs0 : ((strOfNums sc).toList == []) = false := by
            cases sc with
            | nil => exact absurd rfl hsc
            | cons c r => exact str_ne c r
          have hlt := nparent_lt sc hsc
          have HE : Hid (R = (o ++ [njoin sc name]) ++ nplc name (nparent sc).1.length (nparent sc).1) := by show _ = _; rw [HJ.out, nplc_more name sc hsc]; simp
          have q1 := fun W => rjoin_any sc name W (by omega)
          rw [← HX.out] at q1
          have q2 := fun W => rparent_any sc W (getD_bd HSb.out) (by omega)
          have HJb : Hid (byts (njoin sc name)) := njoin_bd sc name HSb.out hnb.out
          have HPb : Hid (byts (nparent sc).1) := (nparent_bd sc HSb.out).1
          have HML : Hid (txtLen (.string (strOfNums (nparent sc).1)) < txtLen (.string (strOfNums sc))) := by show (strOfNums (nparent sc).1).size < (strOfNums sc).size; rw [strOfNums_size, strOfNums_size]; exact hlt
          generalize njoin sc name = J at HE q1 HJb
          generalize (nparent sc).2 = P2 at q2
          generalize (nparent sc).1 = P1 at HE q2 HPb HML hlt
          have Q1 : Hid _ := q1
          have Q2 : Hid _ := q2
          have HOA : Hid (So (wr.alloc (.cells #[.string (strOfNums J)] 9)) w.heap.size _ o) := HO.out.below ((Below.refl _ _).alloc (Nat.le_refl _) _)
          have HBA : Hid (Below w.heap.size w (wr.alloc (.cells #[.string (strOfNums J)] 9))) := HB.out.alloc hbs _
          have HCL : Hid ((wr.alloc (.cells #[.string (strOfNums J)] 9)).cell? ⟨wr.heap.size, 0, none⟩ = some (scell J)) := str_cell wr _
          generalize strOfNums sc = A at hs0 Q1 Q2 q1 q2 HML
          clear HJ HR hsc q1 q2
          go_wp2_with fail
          refine Calls.mono (Q1.out _) ?_
          rintro e w1 ⟨rfl, rfl⟩
          go_wp2_with (at_builtin; refine wpList_append_s rfl _ _ rfl w.heap.size _ o J wr.heap.size 1 rfl rfl HOA.out HJb.out HCL.out hn1 HBA.out.size ?_; intro v2 w2 hO2 hgrow2; have HB2 : Hid (Below w.heap.size w w2) := HOA.out.grown HBA.out HBA.out.size hgrow2; clear hgrow2)
          refine Calls.mono (Q2.out _) ?_
          rintro e w3 ⟨rfl, hb3⟩
          have HO3 : Hid (So w3 w.heap.size v2 (o ++ [J])) := hO2.below hb3
          have HB3 : Hid (Below w.heap.size w w3) := HB2.out.trans (hb3.mono HB2.out.size)
          clear hO2 hb3
          go_wp2
          go_roundw
          case rel => first | exact ⟨P1, o ++ [J], rfl, by simp; omega, HPb, HE, HO3, HB3⟩ | ((repeat apply Exists.intro); exact ⟨⟨P1, o ++ [J], rfl, by simp; omega, HPb, HE, HO3, HB3⟩, rfl⟩)
          case measure => exact HML.out
    · have hne : (X.toList == []) = false := by
        rw [hX]
        cases name with
        | nil => exact absurd rfl hn0
        | cons c r => exact str_ne c r
      have hl : 0 < name.length := List.length_pos_iff.2 hn0
      have hat : ((X[0]'(hsz ▸ hl)).toNat : Int) = name.getD 0 0 := by subst hX; exact str_at name (getD_bd hnb.out) 0 _
      generalize name.getD 0 0 = c0 at hat hpt
      have e46 : (c0 == 46) = false := by simpa using hpt
      clear hX hR hpt hn0 E
      go_enter Tryz.func59, Tryz.ntmps59
      go_wp2
      go_loopw [0, 5] (fun sv v wr => ∃ (sc : List Int) (o : List (List Int)), sv = .string (strOfNums sc) ∧ o.length + sc.length ≤ 10000 ∧ Hid (byts sc) ∧ Hid (R = o ++ nplc name sc.length sc) ∧ Hid (So wr w.heap.size v o) ∧ Hid (Below w.heap.size w wr)) (fun sv _ _ => txtLen sv)
      case atStart => exact ⟨scope, [], rfl, by simp; omega, hsb, HR, So.nil _ _, Below.refl _ _⟩
      case round =>
        obtain ⟨sc, o, rfl, hol, HSb, HJ, HO, HB⟩ := hrel
        have hbs := HB.out.size
        have hn1 : o.length + 1 ≤ 1000000 := by omega
        by_cases hsc : sc = []
        · have hs0 : ((strOfNums sc).toList == []) = true := by rw [hsc, str_list]; rfl
          have HE : Hid (R = o ++ [name]) := by show _ = _; rw [HJ.out, hsc]; rfl
          have HOA : Hid (So (wr.alloc (.cells #[.string X] 9)) w.heap.size _ o) := HO.out.below ((Below.refl _ _).alloc (Nat.le_refl _) _)
          have HBA : Hid (Below w.heap.size w (wr.alloc (.cells #[.string X] 9))) := HB.out.alloc hbs _
          have HCL : Hid ((wr.alloc (.cells #[.string X] 9)).cell? ⟨wr.heap.size, 0, none⟩ = some (scell name)) := by show _ = some (Value.string (strOfNums name)); rw [← HX.out]; exact str_cell wr X
          generalize strOfNums sc = A at hs0
          clear HJ HR hsc
          go_wp2_with (at_builtin; refine wpList_append_s rfl _ _ rfl w.heap.size _ o name wr.heap.size 1 rfl rfl HOA.out hnb.out HCL.out hn1 HBA.out.size ?_; intro v2 w2 hO2 hgrow2)
          go_ret
          exact ⟨_, rfl, by rw [HE.out]; exact hO2, HOA.out.grown HBA.out HBA.out.size hgrow2⟩
        · have hs0 : ((strOfNums sc).toList == []) = false := by
            cases sc with
            | nil => exact absurd rfl hsc
            | cons c r => exact str_ne c r
          have hlt := nparent_lt sc hsc
          have HE : Hid (R = (o ++ [njoin sc name]) ++ nplc name (nparent sc).1.length (nparent sc).1) := by show _ = _; rw [HJ.out, nplc_more name sc hsc]; simp
          have q1 := fun W => rjoin_any sc name W (by omega)
          rw [← HX.out] at q1
          have q2 := fun W => rparent_any sc W (getD_bd HSb.out) (by omega)
          have HJb : Hid (byts (njoin sc name)) := njoin_bd sc name HSb.out hnb.out
          have HPb : Hid (byts (nparent sc).1) := (nparent_bd sc HSb.out).1
          have HML : Hid (txtLen (.string (strOfNums (nparent sc).1)) < txtLen (.string (strOfNums sc))) := by show (strOfNums (nparent sc).1).size < (strOfNums sc).size; rw [strOfNums_size, strOfNums_size]; exact hlt
          generalize njoin sc name = J at HE q1 HJb
          generalize (nparent sc).2 = P2 at q2
          generalize (nparent sc).1 = P1 at HE q2 HPb HML hlt
          have Q1 : Hid _ := q1
          have Q2 : Hid _ := q2
          have HOA : Hid (So (wr.alloc (.cells #[.string (strOfNums J)] 9)) w.heap.size _ o) := HO.out.below ((Below.refl _ _).alloc (Nat.le_refl _) _)
          have HBA : Hid (Below w.heap.size w (wr.alloc (.cells #[.string (strOfNums J)] 9))) := HB.out.alloc hbs _
          have HCL : Hid ((wr.alloc (.cells #[.string (strOfNums J)] 9)).cell? ⟨wr.heap.size, 0, none⟩ = some (scell J)) := str_cell wr _
          generalize strOfNums sc = A at hs0 Q1 Q2 q1 q2 HML
          clear HJ HR hsc q1 q2
          go_wp2_with fail
          refine Calls.mono (Q1.out _) ?_
          rintro e w1 ⟨rfl, rfl⟩
          go_wp2_with (at_builtin; refine wpList_append_s rfl _ _ rfl w.heap.size _ o J wr.heap.size 1 rfl rfl HOA.out HJb.out HCL.out hn1 HBA.out.size ?_; intro v2 w2 hO2 hgrow2; have HB2 : Hid (Below w.heap.size w w2) := HOA.out.grown HBA.out HBA.out.size hgrow2; clear hgrow2)
          refine Calls.mono (Q2.out _) ?_
          rintro e w3 ⟨rfl, hb3⟩
          have HO3 : Hid (So w3 w.heap.size v2 (o ++ [J])) := hO2.below hb3
          have HB3 : Hid (Below w.heap.size w w3) := HB2.out.trans (hb3.mono HB2.out.size)
          clear hO2 hb3
          go_wp2
          go_roundw
          case rel => first | exact ⟨P1, o ++ [J], rfl, by simp; omega, HPb, HE, HO3, HB3⟩ | ((repeat apply Exists.intro); exact ⟨⟨P1, o ++ [J], rfl, by simp; omega, HPb, HE, HO3, HB3⟩, rfl⟩)
          case measure => exact HML.out

end Go.Proofs.YtafmoceinamcdaaGreat
