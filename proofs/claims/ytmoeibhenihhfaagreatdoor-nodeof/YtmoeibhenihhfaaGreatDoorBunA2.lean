/- Put together by a program out of these texts of mine: NMath, Bas, URef, QRef, QEsc, QTak, LRef, LRef2, QNum, NRef, NRef2, NStr, TMem. -/
import Derived.Test.YtmoeibhenihhfaaGreatDoorRows
import Derived.WalkKit
import Derived.WalkMore
import Derived.ScopeJumps
import Derived.OpenShut
import Derived.ProofKit
import Derived.Laws.BytesArg
import Derived.Deep.QuietTactic
import Derived.BigQuiet
import Derived.WalkSmall
import Derived.SliceStrings
import Derived.Deep.Slices
import Derived.Test.YtmoeibhenihhfaaGreatDoorBunA1

/- Names as plain functions over lists of numbers. -/
namespace Go.Proofs.YtmoeibhenihhfaaGreatDoor
set_option linter.unusedSimpArgs false
set_option linter.unusedVariables false

/-- Letters, digits, '_'. -/
def nident (s : List Int) : Bool := s.all lletter && decide (1 ≤ s.length ∧ s.length ≤ 200) && !lnumb (s.getD 0 0)

/-- What stands between points, 'cur' read already. -/
def nsp : List Int → List Int → List (List Int)
  | cur, [] => [cur]
  | cur, c :: r => if c = 46 then cur :: nsp [] r else nsp (cur ++ [c]) r

def nparts (s : List Int) : List (List Int) := nsp [] s

def nfull (s : List Int) : Bool := decide (s.length ≤ 1000) && (nparts s).all nident

def njoin (a b : List Int) : List Int := if a = [] then b else a ++ [46] ++ b

/-- Where the last point ahead of place k stands, and one more; 0: none. -/
def nlast (s : List Int) : Nat → Nat
  | 0 => 0
  | k + 1 => if s.getD k 0 = 46 then k + 1 else nlast s k

theorem nlast_le (s : List Int) : ∀ k, nlast s k ≤ k
  | 0 => Nat.le_refl _
  | k + 1 => by
    unfold nlast
    split
    · exact Nat.le_refl _
    · have := nlast_le s k; omega

def nparent (s : List Int) : List Int × List Int :=
  if nlast s s.length = 0 then ([], s) else (s.take (nlast s s.length - 1), s.drop (nlast s s.length))

theorem nparent_lt (s : List Int) (h : s ≠ []) : (nparent s).1.length < s.length := by
  unfold nparent
  have hl : 0 < s.length := List.length_pos_iff.2 h
  split
  · simpa using hl
  · have := nlast_le s s.length
    simp only [List.length_take]
    omega

/-- Where a name is looked for, from a scope on. -/
def nplc (name : List Int) : Nat → List Int → List (List Int)
  | 0, _ => [name]
  | f + 1, scope => if scope = [] then [name] else njoin scope name :: nplc name f (nparent scope).1

def nplaces (scope name : List Int) : List (List Int) :=
  if name.getD 0 0 = 46 then [name.drop 1] else nplc name scope.length scope

theorem nplc_fuel (name : List Int) : ∀ (f g : Nat) (s : List Int), s.length ≤ f → s.length ≤ g → nplc name f s = nplc name g s
  | 0, 0, s, _, _ => rfl
  | 0, g + 1, s, h, _ => by
    have : s = [] := List.eq_nil_of_length_eq_zero (by omega)
    rw [nplc, nplc, if_pos this]
  | f + 1, 0, s, _, h => by
    have : s = [] := List.eq_nil_of_length_eq_zero (by omega)
    rw [nplc, nplc, if_pos this]
  | f + 1, g + 1, s, h1, h2 => by
    rw [nplc, nplc]
    by_cases k : s = []
    · rw [if_pos k, if_pos k]
    · rw [if_neg k, if_neg k]
      have := nparent_lt s k
      rw [nplc_fuel name f g _ (by omega) (by omega)]

/-- Without '_', letters behind one made great. -/
def ncam : Bool → List Int → List Int
  | _, [] => []
  | g, c :: r => if c = 95 then ncam true r else (if g = true ∧ 97 ≤ c ∧ c ≤ 122 then c - 32 else c) :: ncam false r

def nentry : List Int := [69, 110, 116, 114, 121]

theorem ncam_len : ∀ (s : List Int) (g : Bool), (ncam g s).length ≤ s.length
  | [], g => by simp [ncam]
  | c :: r, g => by
    rw [ncam]
    split
    · have := ncam_len r true; simp only [List.length_cons]; omega
    · have := ncam_len r false; simp only [List.length_cons]; omega

theorem ncam_bd : ∀ (s : List Int) (g : Bool), (∀ c ∈ s, 0 ≤ c ∧ c ≤ 255) → ∀ c ∈ ncam g s, 0 ≤ c ∧ c ≤ 255
  | [], g, h => by simp [ncam]
  | c :: r, g, h => by
    rw [ncam]
    have hr : ∀ x ∈ r, 0 ≤ x ∧ x ≤ 255 := fun x hx => h x (by simp [hx])
    have hc := h c (by simp)
    split
    · exact ncam_bd r true hr
    · intro x hx
      rcases List.mem_cons.1 hx with hx | hx
      · subst hx
        split <;> omega
      · exact ncam_bd r false hr x hx

/-- '_' and name; X ahead as long as it is taken, at most so often. -/
def nsyn (taken : List (List Int)) : Nat → List Int → List Int
  | 0, s => s
  | f + 1, s => nsyn taken f (if s ∈ taken then 88 :: s else s)

/- A name that is not taken: of one more than there are, one is not among them. -/
theorem nsyn_stay (taken : List (List Int)) : ∀ (f : Nat) (s : List Int), s ∉ taken → nsyn taken f s = s
  | 0, s, _ => rfl
  | f + 1, s, h => by rw [nsyn, if_neg h, nsyn_stay taken f s h]

def nxs : Nat → List Int → List Int
  | 0, s => s
  | k + 1, s => 88 :: nxs k s

theorem nxs_len (s : List Int) : ∀ k, (nxs k s).length = k + s.length
  | 0 => by simp [nxs]
  | k + 1 => by rw [nxs, List.length_cons, nxs_len s k]; omega

theorem nxs_out (s : List Int) : ∀ k, nxs k (88 :: s) = 88 :: nxs k s
  | 0 => rfl
  | k + 1 => by rw [nxs, nxs_out s k, nxs]

theorem nsyn_walk (taken : List (List Int)) : ∀ (f : Nat) (s : List Int), nsyn taken f s ∉ taken ∨ (nsyn taken f s = nxs f s ∧ ∀ k, k ≤ f → nxs k s ∈ taken)
  | 0, s => by
    by_cases h : s ∈ taken
    · exact .inr ⟨rfl, fun k hk => by rw [show k = 0 by omega]; exact h⟩
    · exact .inl h
  | f + 1, s => by
    rw [nsyn]
    by_cases h : s ∈ taken
    · rw [if_pos h]
      rcases nsyn_walk taken f (88 :: s) with g | ⟨g1, g2⟩
      · exact .inl g
      · right
        rw [g1, nxs_out]
        refine ⟨rfl, fun k hk => ?_⟩
        match k with
        | 0 => exact h
        | k + 1 =>
          have := g2 k (by omega)
          rw [nxs_out] at this
          exact this
    · rw [if_neg h, nsyn_stay taken f s h]
      exact .inl h

/-- More texts of different lengths than a list has do not all lie in it. -/
theorem too_many (s : List Int) : ∀ (n : Nat) (l : List (List Int)), (∀ k, k ≤ n → nxs k s ∈ l) → n < l.length
  | 0, l, h => by
    have := h 0 (Nat.le_refl _)
    cases l with
    | nil => simp at this
    | cons a b => simp
  | n + 1, l, h => by
    have hm := h (n + 1) (Nat.le_refl _)
    have ih := too_many s n (l.erase (nxs (n + 1) s)) (fun k hk => by
      refine (List.mem_erase_of_ne ?_).2 (h k (by omega))
      intro e
      have := congrArg List.length e
      rw [nxs_len, nxs_len] at this
      omega)
    rw [List.length_erase_of_mem hm] at ih
    omega

theorem nsyn_free (taken : List (List Int)) (s : List Int) : nsyn taken taken.length s ∉ taken := by
  rcases nsyn_walk taken taken.length s with h | ⟨_, h⟩
  · exact h
  · have := too_many s taken.length taken h
    omega

/- A full name and a name behind it come apart again. -/
theorem nlast_none (s : List Int) : ∀ k, (∀ p, p < k → s.getD p 0 ≠ 46) → nlast s k = 0
  | 0, _ => rfl
  | k + 1, h => by rw [nlast, if_neg (h k (by omega)), nlast_none s k (fun p hp => h p (by omega))]

theorem nlast_at (s : List Int) (j : Nat) (hj : s.getD j 0 = 46) : ∀ k, j < k → (∀ p, j < p → p < k → s.getD p 0 ≠ 46) → nlast s k = j + 1
  | 0, h, _ => by omega
  | k + 1, h, hn => by
    rw [nlast]
    by_cases e : j = k
    · subst e; rw [if_pos hj]
    · rw [if_neg (hn k (by omega) (by omega)), nlast_at s j hj k (by omega) (fun p h1 h2 => hn p h1 (by omega))]

theorem nparent_join (a b : List Int) (ha : a ≠ []) (hb : ∀ c ∈ b, c ≠ 46) : nparent (njoin a b) = (a, b) := by
  unfold njoin
  rw [if_neg ha]
  have hl : nlast (a ++ [46] ++ b) (a ++ [46] ++ b).length = a.length + 1 := by
    refine nlast_at _ a.length ?_ _ ?_ ?_
    · simp [List.getD]
    · simp
    · intro p h1 h2
      have hp : p - (a.length + 1) < b.length := by simp only [List.length_append, List.length_cons, List.length_nil] at h2; omega
      have e : (a ++ [46] ++ b).getD p 0 = b[p - (a.length + 1)] := by
        rw [List.getD, List.getElem?_append_right (by simp; omega)]
        simp only [List.length_append, List.length_cons, List.length_nil, Nat.zero_add]
        rw [List.getElem?_eq_getElem hp]
        rfl
      rw [e]
      exact hb _ (List.getElem_mem hp)
  unfold nparent
  rw [hl, if_neg (by omega)]
  simp

theorem nsp_join : ∀ (a b cur : List Int), nsp cur (a ++ 46 :: b) = nsp cur a ++ nsp [] b
  | [], b, cur => by simp [nsp]
  | c :: r, b, cur => by
    rw [List.cons_append, nsp, nsp]
    by_cases k : c = 46
    · rw [if_pos k, if_pos k, nsp_join r b []]; rfl
    · rw [if_neg k, if_neg k, nsp_join r b (cur ++ [c])]

theorem nsp_one : ∀ (b cur : List Int), (∀ c ∈ b, c ≠ 46) → nsp cur b = [cur ++ b]
  | [], cur, _ => by simp [nsp]
  | c :: r, cur, h => by
    rw [nsp, if_neg (h c (by simp)), nsp_one r (cur ++ [c]) (fun x hx => h x (by simp [hx]))]
    simp

theorem nident_no (b : List Int) (h : nident b = true) : ∀ c ∈ b, c ≠ 46 := by
  unfold nident at h
  simp only [Bool.and_eq_true, List.all_eq_true] at h
  intro c hc e
  have := h.1.1 c hc
  rw [e] at this
  exact absurd this (by decide)

theorem nident_len (b : List Int) (h : nident b = true) : 1 ≤ b.length ∧ b.length ≤ 200 := by
  unfold nident at h
  simp only [Bool.and_eq_true, decide_eq_true_eq] at h
  exact h.1.2

theorem nfull_nil : nfull [] = false := by decide

theorem nfull_join (a b : List Int) (ha : nfull a = true) (hl : a.length ≤ 100) (hb : nident b = true) : nfull (njoin a b) = true := by
  have hne : a ≠ [] := fun h => by rw [h, nfull_nil] at ha; exact absurd ha (by decide)
  have h1 := nident_len b hb
  unfold nfull njoin nparts at *
  rw [if_neg hne, show a ++ [46] ++ b = a ++ 46 :: b by simp, nsp_join, nsp_one b [] (nident_no b hb)]
  simp only [Bool.and_eq_true, decide_eq_true_eq, List.all_append, List.all_cons, List.all_nil, Bool.and_true, List.nil_append] at ha ⊢
  exact ⟨by simp only [List.length_append, List.length_cons]; omega, ha.2, hb⟩

end Go.Proofs.YtmoeibhenihhfaaGreatDoor

/- What every layer's texts lean on: bytes that are read ('Bs'), rows of the call's own, appends, and how a slice of bytes is opened. -/
namespace Go.Proofs.YtmoeibhenihhfaaGreatDoor
open Go.RowKit

theorem ret_int {k : IntKind} {a b : Int} (h : a = b) : Ending.returned (.int k a) = .returned (.int k b) := by rw [h]

theorem Tryz.info5 : (Tryz.prog.info? 5).map (fun i => (i.zero, i.size, i.bytes)) = some (some (.int .u8 0), 1, 1) := by kernel_rfl

theorem one_new (w : World) (v : Value) (e : TypeId) : ∀ (j : Nat) (u : Value), [v][j]? = some u → (w.alloc (.cells #[v] e)).cell? (({ block := w.heap.size, off := 0 } : Addr).add j) = some u := by
  intro j u hj
  match j, hj with
  | 0, hj => simp at hj; subst hj; simp [Addr.add]
theorem one_cell (k : IntKind) (n : Int) : ∀ u, u ∈ [Value.int k n] → u.oneCell' = true := by
  intro u hu; simp at hu; subst hu; rfl

theorem owns_shape {w : World} {base : Nat} {e : TypeId} {size n : Nat} {v : Value} {xs : List Value} (h : w.ownsRow base e size v n xs) (hv : ¬ v = .slice none 0 0) : ∃ g c, v = .slice (some ⟨g, 0, none⟩) n c := by
  rcases h.2 with ⟨rfl, _⟩ | ⟨g, c, _, rfl, _⟩
  · exact absurd rfl hv
  · exact ⟨g, c, rfl⟩

/-- A scope that goes back to one label: what holds at the label; a measure that each pass lowers; the way to the label. -/
theorem wp_scope_loop {P : Program} {a : Act} {w : World} {Q : Exit → Act → World → Prop} {c r : Code} (l : Nat) (J : Act → World → Prop) (μ : Act → World → Nat) (hf : findLabel c l = some (Code.skip.seq r))
    (first : Hid (∀ a w, J a w → r.wp P (Exit.jump l J Q) a w) → c.wp P (Exit.jump l J Q) a w)
    (pass : ∀ a w, J a w → r.wp P (Exit.jump l (fun a' w' => J a' w' ∧ μ a' w' < μ a w) Q) a w) : (Code.scope c).wp P Q a w :=
  wp_scope_jumps l J μ hf (first (fun a w h => wp_mono (pass a w h) (by
    intro e a w h
    cases e with
    | goto l' => exact ⟨h.1, h.2.1⟩
    | _ => exact h))) (fun a w h => wp_seq (wp_skip (pass a w h)))

theorem row_open {w : World} {a : Option Addr} {len cap : Nat} {zs : List Int}
    (h : (a = none ∧ len = 0 ∧ cap = 0 ∧ zs = []) ∨ ∃ x, a = some x ∧ len ≤ cap ∧ cap ≤ maxLen ∧ zs.length = cap ∧ (∀ i, i < zs.length → w.cell? (x.add i) = some (.int .u8 (zs.getD i 0))) ∧ ∀ n ∈ zs, (Lit.int .u8 n).wf = true) :
    (len : Int) ≤ 9223372036854775807 ∧ (zs.take len).length = len ∧ (∀ i, 0 ≤ (zs.take len).getD i 0 ∧ (zs.take len).getD i 0 ≤ 255) ∧
      (0 < len → ∃ b off, a = some ⟨b, off, none⟩ ∧ b < w.heap.size ∧ ∀ i, i < len → w.cell? ⟨b, off + i, none⟩ = some (.int .u8 ((zs.take len).getD i 0))) := by
  rcases h with ⟨rfl, rfl, rfl, rfl⟩ | ⟨x, rfl, hl, hm, hz, hcell, hwz⟩
  · exact ⟨by omega, rfl, fun i => by simp, fun h => absurd h (by omega)⟩
  · refine ⟨by unfold maxLen at hm; omega, by simp; omega, ?_, ?_⟩
    · intro i
      rcases Nat.lt_or_ge i (zs.take len).length with h | h
      · have hm := List.getElem_mem h
        have := bounds_u8 (hwz _ (List.mem_of_mem_take hm))
        simp only [List.getD, List.getElem?_eq_getElem h, Option.getD_some]
        omega
      · simp [List.getD, List.getElem?_eq_none h]
    · intro h0
      obtain ⟨b, off, spot⟩ := x
      have hc := hcell 0 (by omega)
      have hspot : spot = none := by simpa [Addr.add] using World.cell?_spot hc
      subst hspot
      refine ⟨b, off, rfl, ?_, ?_⟩
      · rcases Nat.lt_or_ge b w.heap.size with h | h
        · exact h
        · simp [World.cell?, Addr.add, Array.getElem?_eq_none h] at hc
      · intro i hi
        have := hcell i (by omega)
        have hp : (⟨b, off, none⟩ : Addr).add i = ⟨b, off + i, none⟩ := by unfold Addr.add; split <;> simp_all
        rw [hp] at this
        rw [this]
        simp [List.getD, hi]

theorem row_below {w w1 : World} {b off len : Nat} {zs : List Int} (hb : Below w.heap.size w w1) (hlt : b < w.heap.size)
    (h : ∀ i, i < len → w.cell? ⟨b, off + i, none⟩ = some (.int .u8 (zs.getD i 0))) : ∀ i, i < len → w1.cell? ⟨b, off + i, none⟩ = some (.int .u8 (zs.getD i 0)) :=
  fun i hi => (hb.cell hlt).trans (h i hi)

/-- The slice at a, of len bytes, room for cap, holds the numbers zs in the world w. -/
def Bs (w : World) (a : Option Addr) (len cap : Nat) (zs : List Int) : Prop :=
  zs.length = len ∧ (len : Int) ≤ 9223372036854775807 ∧ (∀ i, 0 ≤ zs.getD i 0 ∧ zs.getD i 0 ≤ 255) ∧ len ≤ cap ∧ (a = none → cap = 0) ∧
    (0 < len → ∃ b off, a = some ⟨b, off, none⟩ ∧ b < w.heap.size ∧ ∀ i, i < len → w.cell? ⟨b, off + i, none⟩ = some (.int .u8 (zs.getD i 0)))

theorem Bs.below {w w' : World} {a : Option Addr} {len cap : Nat} {zs : List Int} (h : Bs w a len cap zs) {B : Nat} (hb : Below B w w') (hB : w.heap.size ≤ B) : Bs w' a len cap zs := by
  obtain ⟨h1, h2, h3, h4, h5, h6⟩ := h
  refine ⟨h1, h2, h3, h4, h5, fun hp => ?_⟩
  obtain ⟨b, off, rfl, hlt, hc⟩ := h6 hp
  exact ⟨b, off, rfl, Nat.lt_of_lt_of_le hlt hb.size, fun i hi => (hb.cell (show b < B by omega)).trans (hc i hi)⟩

theorem Bs.of_row {w : World} {a : Option Addr} {len cap : Nat} {zs : List Int}
    (h : (a = none ∧ len = 0 ∧ cap = 0 ∧ zs = []) ∨ ∃ x, a = some x ∧ len ≤ cap ∧ cap ≤ maxLen ∧ zs.length = cap ∧ (∀ i, i < zs.length → w.cell? (x.add i) = some (.int .u8 (zs.getD i 0))) ∧ ∀ n ∈ zs, (Lit.int .u8 n).wf = true) :
    Bs w a len cap (zs.take len) := by
  obtain ⟨h1, h2, h3, h4⟩ := row_open h
  refine ⟨h2, h1, h3, ?_, ?_, h4⟩
  · rcases h with ⟨_, rfl, _, _⟩ | ⟨x, _, hl, _⟩
    · exact Nat.zero_le _
    · exact hl
  · intro hn
    rcases h with ⟨_, _, rfl, _⟩ | ⟨x, hx, _⟩
    · rfl
    · rw [hn] at hx; simp at hx

theorem getD_bd {l : List Int} (h : ∀ c ∈ l, 0 ≤ c ∧ c ≤ 255) (i : Nat) : 0 ≤ l.getD i 0 ∧ l.getD i 0 ≤ 255 := by
  rcases Nat.lt_or_ge i l.length with hl | hl
  · simp only [List.getD, List.getElem?_eq_getElem hl, Option.getD_some]
    exact h _ (List.getElem_mem hl)
  · simp [List.getD, List.getElem?_eq_none hl]

theorem mem_bd {l : List Int} (h : ∀ i, 0 ≤ l.getD i 0 ∧ l.getD i 0 ≤ 255) : ∀ c ∈ l, 0 ≤ c ∧ c ≤ 255 := by
  intro c hc
  obtain ⟨i, hi, rfl⟩ := List.getElem_of_mem hc
  have := h i
  simpa [List.getD, List.getElem?_eq_getElem hi] using this

theorem Bs.mem {w : World} {a : Option Addr} {len cap : Nat} {zs : List Int} (h : Bs w a len cap zs) : ∀ c ∈ zs, 0 ≤ c ∧ c ≤ 255 := mem_bd h.2.2.1

/-- What the call itself has made. -/
theorem Bs.of_owns {w : World} {base n : Nat} {a : Option Addr} {len cap : Nat} {zs : List Int} (h : w.ownsRow base 5 1 (.slice a len cap) n (zs.map (Value.int .u8))) (hb : ∀ c ∈ zs, 0 ≤ c ∧ c ≤ 255) : Bs w a len cap zs := by
  have hz := h.1
  simp at hz
  rcases h.2 with ⟨he, hn⟩ | ⟨g, c, cur, he, hg, hh, h1, h2, h3, h4⟩
  · simp at he
    obtain ⟨rfl, rfl, rfl⟩ := he
    have : zs = [] := List.eq_nil_of_length_eq_zero (by omega)
    subst this
    exact ⟨rfl, by omega, fun i => by simp, Nat.le_refl _, fun _ => rfl, fun h => absurd h (by omega)⟩
  · simp at he
    obtain ⟨rfl, rfl, rfl⟩ := he
    refine ⟨hz, by unfold maxLen at h2; omega, getD_bd hb, h1, fun h => by simp at h, fun hp => ⟨g, 0, rfl, ?_, fun i hi => ?_⟩⟩
    · exact (h.lt g rfl).2
    · have := h.cellAt i (by omega)
      rw [Nat.zero_add, this]
      simp [List.getElem?_eq_getElem (show i < zs.length by omega), List.getD]

/-- Its numbers as a text. -/
theorem Bs.conv {w : World} {a : Option Addr} {len cap : Nat} {zs : List Int} (h : Bs w a len cap zs) :
    (convert 60 9 (.slice a len cap)).run Tryz.prog w = .ok (.string (strOfNums zs)) w := by
  obtain ⟨h1, h2, h3, h4, h5, h6⟩ := h
  by_cases hp : 0 < len
  · obtain ⟨b, off, rfl, _, hc⟩ := h6 hp
    exact run_convert_bytes_arg w 60 5 Tryz.underlying60 Tryz.underlying5 b off len cap zs h1 hc 9 Tryz.underlying9
  · have hl : len = 0 := by omega
    subst hl
    have hz : zs = [] := List.eq_nil_of_length_eq_zero h1
    subst hz
    cases a with
    | none => exact run_convert_bytes_nil w 60 5 Tryz.underlying60 Tryz.underlying5 0 cap 9 Tryz.underlying9
    | some x =>
      rw [run_convert_bytes_string w 60 9 5 _ 0 cap Tryz.underlying60 Tryz.underlying5 Tryz.underlying9]
      have hl := run_loadCells_list (P := Tryz.prog) w x [] (fun j v hj => by simp at hj)
      exact run_bytesToString w x 0 cap [] (by simpa using hl)

/-- A piece of it: 's[l:h]', the address as the walk spells it. -/
theorem Bs.cut {w : World} {a : Option Addr} {len cap : Nat} {zs : List Int} (h : Bs w a len cap zs) (l k : Nat) (hl : l ≤ k) (hk : k ≤ len) :
    Bs w (if cap = l then a else a.map (·.add l)) (k - l) (cap - l) ((zs.take k).drop l) := by
  obtain ⟨h1, h2, h3, h4, h5, h6⟩ := h
  refine ⟨by simp; omega, by omega, ?_, by omega, ?_, ?_⟩
  · have hm := mem_bd h3
    exact getD_bd (fun c hc => hm c (List.mem_of_mem_take (List.mem_of_mem_drop hc)))
  · intro hn
    by_cases e : cap = l
    · omega
    · rw [if_neg e] at hn
      cases a with
      | none => have := h5 rfl; omega
      | some x => simp at hn
  · intro hp
    obtain ⟨b, off, rfl, hlt, hc⟩ := h6 (by omega)
    have e : ¬ cap = l := by omega
    have hadd : (⟨b, off, none⟩ : Addr).add l = ⟨b, off + l, none⟩ := by unfold Addr.add; split <;> simp_all
    refine ⟨b, off + l, by rw [if_neg e]; simp [hadd], hlt, fun i hi => ?_⟩
    have := hc (l + i) (by omega)
    rw [show off + l + i = off + (l + i) by omega, this]
    simp [List.getD, List.getElem?_drop, show l + i < k by omega]

theorem ints_one (l : List Int) : ∀ u, u ∈ l.map (Value.int .u8) → u.oneCell' = true := by
  intro u hu
  obtain ⟨n, _, rfl⟩ := List.mem_map.1 hu
  rfl

/-- An owned row stays owned behind a call that turns nothing that was there. -/
theorem own_below {W W' : World} {base e sz n : Nat} {v : Value} {xs : List Value} (h : W.ownsRow base e sz v n xs) (hb : Below W.heap.size W W') : W'.ownsRow base e sz v n xs :=
  h.kept (row := none) ⟨hb.os, hb.tape, hb.output, hb.size, fun k hk _ => hb.block k hk⟩ (by cases hv : v.ownBlock <;> simp)

theorem own_base {W : World} {base base' e sz n : Nat} {v : Value} {xs : List Value} (h : W.ownsRow base e sz v n xs) (hb : base' ≤ base) : W.ownsRow base' e sz v n xs := by
  refine ⟨h.1, ?_⟩
  rcases h.2 with h | ⟨g, c, cur, h1, h2, h3⟩
  · exact .inl h
  · exact .inr ⟨g, c, cur, h1, Nat.le_trans hb h2, h3⟩

theorem own_pos {w : World} {base : Nat} {e : TypeId} {size n : Nat} {v : Value} {xs : List Value} (h : w.ownsRow base e size v n xs) (hn : 0 < n) : ∃ g c, v = .slice (some ⟨g, 0, none⟩) n c :=
  owns_shape h (fun hv => by
    rcases h.2 with ⟨_, h0⟩ | ⟨g, c, cur, h1, _⟩
    · omega
    · rw [h1] at hv; simp at hv)

/-- An owned row's value is a slice of its length. -/
theorem own_slice {w : World} {base : Nat} {e : TypeId} {size n : Nat} {v : Value} {xs : List Value} (h : w.ownsRow base e size v n xs) : ∃ a c, v = .slice a n c := by
  rcases h.2 with ⟨rfl, rfl⟩ | ⟨g, c, cur, rfl, _⟩
  · exact ⟨none, 0, rfl⟩
  · exact ⟨some ⟨g, 0, none⟩, c, rfl⟩

theorem run_append_bs {w : World} {base n : Nat} {v : Value} {xs : List Value} {a : Option Addr} {len cap : Nat} {zs : List Int} (ty : TypeId)
    (hown : w.ownsRow base 5 1 v n xs) (hbs : Bs w a len cap zs) (hn : n + len ≤ 140737488355328) (hbase : base ≤ w.heap.size) :
    ∃ v' w', (Builtin.append_ #[60, 60] ty #[v, .slice a len cap]).run Tryz.prog w = .ok v' w' ∧ w'.ownsRow base 5 1 v' (n + len) (xs ++ zs.map (Value.int .u8)) ∧ w.grownBy w' v.ownBlock := by
  obtain ⟨i0, hi, hz0, hz1, hz2⟩ := info_parts Tryz.info5
  obtain ⟨h1, h2, h3, h4, h5, h6⟩ := hbs
  cases a with
  | none =>
    have hc := h5 rfl
    have hl : len = 0 := by omega
    subst hc hl
    have hz : zs = [] := List.eq_nil_of_length_eq_zero h1
    subst hz
    refine ⟨v, w, run_append_owned_none w base 60 ty 5 i0 1 Tryz.underlying60 hi v n xs hown, by simpa using hown, ⟨rfl, rfl, rfl, Nat.le_refl _, fun _ _ _ => rfl⟩⟩
  | some ad =>
    obtain ⟨v', w', hr, ho, hg, _⟩ := run_append_own (P := Tryz.prog) w base 60 ty 5 i0 (.int .u8 0) 1 1 Tryz.underlying60 hi hz0 hz1 hz2 rfl (by decide) v n xs hown ad len cap (zs.map (Value.int .u8)) (by simp [h1])
      (fun j u hj => by
        rcases Nat.lt_or_ge j len with h | h
        · obtain ⟨b, off, e, _, hc⟩ := h6 (by omega)
          simp at e
          subst e
          have hp : (⟨b, off, none⟩ : Addr).add j = ⟨b, off + j, none⟩ := by unfold Addr.add; split <;> simp_all
          rw [hp, hc j h]
          simp [List.getElem?_eq_getElem (show j < zs.length by omega), List.getD] at hj ⊢
          exact hj
        · simp [List.getElem?_eq_none (show zs.length ≤ j by omega)] at hj)
      (ints_one zs) (by unfold maxLen; omega) (by omega) hbase
    exact ⟨v', w', hr, ho, hg⟩

theorem wp_append_bs {w : World} {o : Oper} {f : Act} {K : Act → World → Prop} {Q : Exit → Act → World → Prop} (s x : Operand)
    (ho : o.op = .call { callee := .builtin .append, args := #[s, x], argTypes := #[60, 60] }) (base : Nat) (v : Value) (n : Nat) (xs : List Value) (a : Option Addr) (len cap : Nat) (zs : List Int)
    (hs : f.eval s = v) (hx : f.eval x = .slice a len cap) (hown : w.ownsRow base 5 1 v n xs) (hbs : Bs w a len cap zs) (hn : n + len ≤ 140737488355328) (hbase : base ≤ w.heap.size)
    (h : ∀ v' w', w'.ownsRow base 5 1 v' (n + len) (xs ++ zs.map (Value.int .u8)) → w.grownBy w' v.ownBlock → K (f.put o.dst v') w') : o.wp Tryz.prog f w K Q := by
  obtain ⟨v', w', hrun, h1, h2⟩ := run_append_bs (ty := o.type) hown hbs hn hbase
  unfold Oper.wp
  simp [execOp, ho, resolve, invoke, builtin, hs, hx, hrun, Result.andThen]
  exact h v' w' h1 h2

theorem wpList_append_bs {w : World} {ops : Array Oper} {rest : List Oper} {o : Oper} {f : Act} {Q : Exit → Act → World → Prop} (hgd : o.guard = none) (s x : Operand)
    (ho : o.op = .call { callee := .builtin .append, args := #[s, x], argTypes := #[60, 60] }) (base : Nat) (v : Value) (n : Nat) (xs : List Value) (a : Option Addr) (len cap : Nat) (zs : List Int)
    (hs : f.eval s = v) (hx : f.eval x = .slice a len cap) (hown : w.ownsRow base 5 1 v n xs) (hbs : Bs w a len cap zs) (hn : n + len ≤ 140737488355328) (hbase : base ≤ w.heap.size)
    (h : ∀ v' w', w'.ownsRow base 5 1 v' (n + len) (xs ++ zs.map (Value.int .u8)) → w.grownBy w' v.ownBlock → wpList Tryz.prog ops Q rest (f.put o.dst v') w') : wpList Tryz.prog ops Q (o :: rest) f w := by
  refine wpList_plain hgd fun K hK => ?_
  exact wp_append_bs s x ho base v n xs a len cap zs hs hx hown hbs hn hbase (fun v' w' h1 h2 => hK _ _ (h v' w' h1 h2))

theorem step_append_bs {w : World} {ops : Array Oper} {o : Oper} {f : Act} {K : Act → World → Prop} {Q : Exit → Act → World → Prop} {E : Prop} (hgd : o.guard = none) (s x : Operand)
    (ho : o.op = .call { callee := .builtin .append, args := #[s, x], argTypes := #[60, 60] }) (base : Nat) (v : Value) (n : Nat) (xs : List Value) (a : Option Addr) (len cap : Nat) (zs : List Int)
    (hs : f.eval s = v) (hx : f.eval x = .slice a len cap) (hown : w.ownsRow base 5 1 v n xs) (hbs : Bs w a len cap zs) (hn : n + len ≤ 140737488355328) (hbase : base ≤ w.heap.size)
    (h : ∀ v' w', w'.ownsRow base 5 1 v' (n + len) (xs ++ zs.map (Value.int .u8)) → w.grownBy w' v.ownBlock → K (f.put o.dst v') w') :
    if Region.wanted o (yielded ops f.tmps) = true then Oper.wp Tryz.prog o f w K Q else E := by
  have hw : Region.wanted o (yielded ops f.tmps) = true := by simp [Region.wanted, hgd]
  rw [if_pos hw]
  exact wp_append_bs s x ho base v n xs a len cap zs hs hx hown hbs hn hbase h

open Go.ChangeShapes Go.WideShapes Go.ChangeAt
theorem bs_open {H : Type} {enc : TypeId × Value → H} {W : World} {a : Option Addr} {len cap fuel : Nat} {x : DataW H × List MemPlace}
    (hf : DataW.trod enc Tryz.prog W 0 (fun _ => true) true fuel 60 [.slice a len cap] = some x) : ∃ zs, Bs W a len cap zs := by
  rcases open_ints Tryz.underlying60 Tryz.underlying5 (by kernel_rfl) hf with ⟨hcs, _⟩ | ⟨y, l, c, zs, hcs, _, hl, hm, hz, _, hcell, hwz⟩
  · simp at hcs
    obtain ⟨rfl, rfl, rfl⟩ := hcs
    exact ⟨_, Bs.of_row (zs := []) (.inl ⟨rfl, rfl, rfl, rfl⟩)⟩
  · simp at hcs
    obtain ⟨rfl, rfl, rfl⟩ := hcs
    exact ⟨_, Bs.of_row (zs := zs) (.inr ⟨_, rfl, hl, hm, by simpa using hz, hcell, hwz⟩)⟩

theorem u8_inj {a b : Int} (ha : 0 ≤ a ∧ a ≤ 255) (hb : 0 ≤ b ∧ b ≤ 255) (h : UInt8.ofNat a.toNat = UInt8.ofNat b.toNat) : a = b := by
  have e := congrArg UInt8.toNat h
  simp only [UInt8.toNat_ofNat'] at e
  omega

theorem u8s_inj : ∀ (a b : List Int), (∀ c ∈ a, 0 ≤ c ∧ c ≤ 255) → (∀ c ∈ b, 0 ≤ c ∧ c ≤ 255) → (a.map fun n => UInt8.ofNat n.toNat) = (b.map fun n => UInt8.ofNat n.toNat) → a = b
  | [], [], _, _, _ => rfl
  | [], y :: b, _, _, h => by simp at h
  | x :: a, [], _, _, h => by simp at h
  | x :: a, y :: b, ha, hb, h => by
    simp only [List.map_cons, List.cons.injEq] at h
    rw [u8_inj (ha x (by simp)) (hb y (by simp)) h.1, u8s_inj a b (fun c hc => ha c (by simp [hc])) (fun c hc => hb c (by simp [hc])) h.2]

/-- Two texts of bytes are one where the bytes are. -/
theorem str_eq {z1 z2 : List Int} (h1 : ∀ c ∈ z1, 0 ≤ c ∧ c ≤ 255) (h2 : ∀ c ∈ z2, 0 ≤ c ∧ c ≤ 255) : ((strOfNums z1).toList == (strOfNums z2).toList) = (z1 == z2) := by
  rw [ByteArray.toList_eq, ByteArray.toList_eq, strOfNums_data, strOfNums_data, Bool.eq_iff_iff]
  simp only [beq_iff_eq]
  exact ⟨u8s_inj z1 z2 h1 h2, fun h => by rw [h]⟩

theorem ret_bool {a b : Bool} (h : a = b) : Ending.returned (.bool a) = .returned (.bool b) := by rw [h]

end Go.Proofs.YtmoeibhenihhfaaGreatDoor

/- The contracts of the document's own answers on characters (the reference's character, PutRune, Rune, Count), over the turned text. -/
namespace Go.Proofs.YtmoeibhenihhfaaGreatDoor
open Go.RowKit

/-- A slice written out is the call's own row. -/
theorem lit_row (w : World) (e : TypeId) (xs : Array Value) (n : Nat) (hn : xs.size = n) (hm : n ≤ 1000) : (w.alloc (.cells xs e)).ownsRow w.heap.size e 1 (.slice (some ⟨w.heap.size, 0, none⟩) n n) n xs.toList := by
  subst hn
  refine ⟨by simp, .inr ⟨w.heap.size, xs.size, xs, rfl, Nat.le_refl _, heap_alloc_new _ _, Nat.le_refl _, by unfold maxLen; omega, by simp, by rw [Nat.mul_one]; exact List.take_of_length_le (by simp)⟩⟩

end Go.Proofs.YtmoeibhenihhfaaGreatDoor

/- The contracts of the document's own answers on digits (the reference's digit, run), over the turned text. -/
namespace Go.Proofs.YtmoeibhenihhfaaGreatDoor
open Go.RowKit

/-- A byte of a text. -/
theorem str_at (zs : List Int) (hz : ∀ i, 0 ≤ zs.getD i 0 ∧ zs.getD i 0 ≤ 255) (k : Nat) (h : k < (strOfNums zs).size) : (((strOfNums zs)[k]'h).toNat : Int) = zs.getD k 0 := by
  have hk : k < zs.length := by rw [strOfNums_size] at h; exact h
  have := hz k
  show ((((zs.map fun n => UInt8.ofNat n.toNat).toArray)[k]'(by simpa using hk)).toNat : Int) = _
  simp only [List.getElem_toArray, List.getElem_map]
  simp only [List.getD, List.getElem?_eq_getElem hk, Option.getD_some] at this ⊢
  simp
  omega

theorem qrn_stop (base : Int) (f : Nat) (zs : List Int) (k : Nat) (n : Int) (h : zs.length ≤ k ∨ f = 0 ∨ base ≤ dgt (zs.getD k 0)) : qrn base f (zs.drop k) n = (n, 0) := by
  cases f with
  | zero => rfl
  | succ f =>
    rcases Nat.lt_or_ge k zs.length with hk | hk
    · rw [List.drop_eq_getElem_cons hk, qrn, if_neg]
      have : zs[k] = zs.getD k 0 := by simp [List.getD, List.getElem?_eq_getElem hk]
      rw [this]
      omega
    · rw [List.drop_eq_nil_of_le hk]; rfl

theorem qrn_step (base : Int) (f : Nat) (zs : List Int) (k : Nat) (n : Int) (hk : k < zs.length) (h : dgt (zs.getD k 0) < base) :
    qrn base (f + 1) (zs.drop k) n = ((qrn base f (zs.drop (k + 1)) (n * base + dgt (zs.getD k 0))).1, (qrn base f (zs.drop (k + 1)) (n * base + dgt (zs.getD k 0))).2 + 1) := by
  have e : zs[k] = zs.getD k 0 := by simp [List.getD, List.getElem?_eq_getElem hk]
  rw [List.drop_eq_getElem_cons hk, qrn, e, if_pos h]

theorem dgt_1 {c : Int} (h : 48 ≤ c ∧ c ≤ 57) : dgt c = c - 48 := by unfold dgt; rw [if_pos h]

theorem dgt_2 {c : Int} (h : 97 ≤ c ∧ c ≤ 102) : dgt c = c - 87 := by unfold dgt; rw [if_neg (by omega), if_pos h]

theorem dgt_3 {c : Int} (h : 65 ≤ c ∧ c ≤ 70) : dgt c = c - 55 := by unfold dgt; rw [if_neg (by omega), if_neg (by omega), if_pos h]

theorem dgt_4 {c : Int} (h1 : ¬ (48 ≤ c ∧ c ≤ 57)) (h2 : ¬ (97 ≤ c ∧ c ≤ 102)) (h3 : ¬ (65 ≤ c ∧ c ≤ 70)) : dgt c = 99 := by unfold dgt; rw [if_neg h1, if_neg h2, if_neg h3]

end Go.Proofs.YtmoeibhenihhfaaGreatDoor

/- The contract of the document's own answer on what stands behind a backslash (the reference's escape), over the turned text. -/
namespace Go.Proofs.YtmoeibhenihhfaaGreatDoor
open Go.RowKit
set_option linter.unusedVariables false

theorem str_list (zs : List Int) : (strOfNums zs).toList = zs.map fun n => UInt8.ofNat n.toNat := by rw [ByteArray.toList_eq]; rfl

theorem str_ne (c : Int) (r : List Int) : ((strOfNums (c :: r)).toList == []) = false := by rw [str_list]; rfl

/-- A text's rest. -/
theorem str_cut (zs : List Int) (a b : Nat) : (strOfNums zs).extract a b = strOfNums ((zs.drop a).take (b - a)) := by
  unfold strOfNums
  rw [ByteArray.extract_mk, List.map_take, List.map_drop]

theorem str_tail (c : Int) (r : List Int) : (strOfNums (c :: r)).extract 1 (r.length + 1) = strOfNums r := by
  rw [str_cut]
  simp

theorem own_lit (w : World) (x : Int) : (w.alloc (.cells #[.int .u8 x] 5)).ownsRow w.heap.size 5 1 (.slice (some ⟨w.heap.size, 0, none⟩) 1 1) 1 [.int .u8 x] :=
  lit_row w 5 #[.int .u8 x] 1 rfl (by omega)

/-- What a way of escape ends in. -/
def EscEnd (w : World) (p : List Int × Nat) (e : Ending) (w' : World) : Prop :=
  ∃ v, e = .returned (.tuple #[v, .int .i64 (p.2 : Int)]) ∧ w'.ownsRow w.heap.size 5 1 v p.1.length (p.1.map (Value.int .u8)) ∧ Below w.heap.size w w'

end Go.Proofs.YtmoeibhenihhfaaGreatDoor

/- The contract of the document's own answer on the quoted text at a text's beginning (the reference's TakeText), over the turned text. -/
namespace Go.Proofs.YtmoeibhenihhfaaGreatDoor
open Go.RowKit
set_option linter.unusedVariables false
set_option linter.unusedSimpArgs false

theorem lit_bs1 (w : World) (c : Int) (h0 : 0 ≤ c) (h1 : c ≤ 255) : Bs (w.alloc (.cells #[.int .u8 c] 5)) (some ⟨w.heap.size, 0, none⟩) 1 1 [c] :=
  Bs.of_owns (zs := [c]) (own_lit w c) (by intro x hx; simp at hx; omega)

theorem qesc_out (s : List Int) : (qesc s).1.length ≤ (qesc s).2 := by
  cases s with
  | nil => simp [qesc]
  | cons c r =>
    have h5 := uput_len (qrn 16 4 r 0).1
    have h6 := uput_len (qrn 16 8 r 0).1
    suffices key : ∀ p, qesc (c :: r) = p → p.1.length ≤ p.2 from key _ rfl
    intro p
    rw [qesc]
    by_cases k0 : c = 97
    · rw [if_pos k0]; rintro rfl; simp
    rw [if_neg k0]
    by_cases k1 : c = 98
    · rw [if_pos k1]; rintro rfl; simp
    rw [if_neg k1]
    by_cases k2 : c = 102
    · rw [if_pos k2]; rintro rfl; simp
    rw [if_neg k2]
    by_cases k3 : c = 110
    · rw [if_pos k3]; rintro rfl; simp
    rw [if_neg k3]
    by_cases k4 : c = 114
    · rw [if_pos k4]; rintro rfl; simp
    rw [if_neg k4]
    by_cases k5 : c = 116
    · rw [if_pos k5]; rintro rfl; simp
    rw [if_neg k5]
    by_cases k6 : c = 118
    · rw [if_pos k6]; rintro rfl; simp
    rw [if_neg k6]
    by_cases k7 : c = 92 ∨ c = 39 ∨ c = 34 ∨ c = 63
    · rw [if_pos k7]; rintro rfl; simp
    rw [if_neg k7]
    by_cases m0 : c = 120 ∨ c = 88
    · rw [if_pos m0]
      by_cases j : 0 < (qrn 16 2 r 0).2
      · rw [if_pos j]; rintro rfl; simp only [List.length_cons, List.length_nil]; omega
      · rw [if_neg j]; rintro rfl; simp
    rw [if_neg m0]
    by_cases m1 : c = 117
    · rw [if_pos m1]
      by_cases j : (qrn 16 4 r 0).2 = 4 ∧ isCh (qrn 16 4 r 0).1 = true
      · rw [if_pos j]; rintro rfl; simp only [List.length_cons, List.length_nil]; omega
      · rw [if_neg j]; rintro rfl; simp
    rw [if_neg m1]
    by_cases m2 : c = 85
    · rw [if_pos m2]
      by_cases j : (qrn 16 8 r 0).2 = 8 ∧ isCh (qrn 16 8 r 0).1 = true
      · rw [if_pos j]; rintro rfl; simp only [List.length_cons, List.length_nil]; omega
      · rw [if_neg j]; rintro rfl; simp
    rw [if_neg m2]
    by_cases j : 0 < (qrn 8 3 (c :: r) 0).2 ∧ (qrn 8 3 (c :: r) 0).1 < 256
    · rw [if_pos j]; rintro rfl; simp only [List.length_cons, List.length_nil]; omega
    · rw [if_neg j]; rintro rfl; simp

theorem qtk_bd (q : Int) : ∀ (f : Nat) (s : List Int) (i : Int) (o : List Int), (∀ c ∈ s, 0 ≤ c ∧ c ≤ 255) → (∀ c ∈ o, 0 ≤ c ∧ c ≤ 255) → ∀ c ∈ (qtk q f s i o).1, 0 ≤ c ∧ c ≤ 255
  | 0, s, i, o, _, _ => by simp [qtk]
  | f + 1, [], i, o, _, _ => by simp [qtk]
  | f + 1, c :: r, i, o, h, ho => by
    have hr : ∀ c ∈ r, 0 ≤ c ∧ c ≤ 255 := fun x hx => h x (by simp [hx])
    rw [qtk]
    by_cases k1 : c = q
    · rw [if_pos k1]; exact ho
    rw [if_neg k1]
    by_cases k2 : c = 0 ∨ c = 10
    · rw [if_pos k2]; simp
    rw [if_neg k2]
    by_cases k3 : c = 92
    · rw [if_pos k3]
      by_cases k4 : (qesc r).2 = 0
      · rw [if_pos k4]; simp
      · rw [if_neg k4]
        exact qtk_bd q f _ _ _ (fun x hx => hr x (List.mem_of_mem_drop hx)) (fun x hx => (List.mem_append.1 hx).elim (ho x) (qesc_bd r hr x))
    · rw [if_neg k3]
      exact qtk_bd q f _ _ _ hr (fun x hx => (List.mem_append.1 hx).elim (ho x) (fun hx => by simp at hx; subst hx; exact h x (by simp)))

theorem qtake_bd (s : List Int) (h : ∀ c ∈ s, 0 ≤ c ∧ c ≤ 255) : ∀ c ∈ (qtake s).1, 0 ≤ c ∧ c ≤ 255 := by
  cases s with
  | nil => simp [qtake]
  | cons c r =>
    rw [qtake]
    by_cases k : c = 34 ∨ c = 39
    · rw [if_pos k]; exact qtk_bd c _ r 1 [] (fun x hx => h x (by simp [hx])) (by simp)
    · rw [if_neg k]; simp

/-- Every text is some numbers'. -/
theorem str_nums (s : ByteArray) : ∃ z : List Int, s = strOfNums z ∧ ∀ i, 0 ≤ z.getD i 0 ∧ z.getD i 0 ≤ 255 := by
  refine ⟨s.data.toList.map fun x => (x.toNat : Int), ?_, getD_bd ?_⟩
  · apply ByteArray.ext
    apply Array.ext'
    rw [strOfNums_data, List.map_map]
    conv => lhs; rw [← List.map_id s.data.toList]
    apply List.map_congr_left
    intro x _
    simp
  · intro c hc
    obtain ⟨x, _, rfl⟩ := List.mem_map.1 hc
    have := x.toNat_lt
    omega

theorem drop_at {l : List Int} {k : Nat} (h : k < l.length) : l.drop k = l.getD k 0 :: l.drop (k + 1) := by
  rw [List.drop_eq_getElem_cons h]
  simp [List.getD, List.getElem?_eq_getElem h]

end Go.Proofs.YtmoeibhenihhfaaGreatDoor

/- The contracts of the reference's own small functions of layer 5: which signs are blanks, letters, digits, signs; where a line begins; comments of their own; places within comments. -/
namespace Go.Proofs.YtmoeibhenihhfaaGreatDoor
open Go.RowKit
set_option linter.unusedVariables false
set_option linter.unusedSimpArgs false

theorem lblank_t {c : Int} (h : c = 32 ∨ (9 ≤ c ∧ c ≤ 13)) : lblank c = true := decide_eq_true h

theorem lblank_f {c : Int} (h : ¬ (c = 32 ∨ (9 ≤ c ∧ c ≤ 13))) : lblank c = false := decide_eq_false h

end Go.Proofs.YtmoeibhenihhfaaGreatDoor

/- The contracts of the reference's own comments of a line, places within comments, comments of a token. -/
namespace Go.Proofs.YtmoeibhenihhfaaGreatDoor
open Go.RowKit
set_option linter.unusedVariables false
set_option linter.unusedSimpArgs false

/-- A piece of a text of two signs is these. -/
theorem str_two (s : List Int) (hz : ∀ i, 0 ≤ s.getD i 0 ∧ s.getD i 0 ≤ 255) (i : Nat) (h : i + 1 < s.length) (a b : Int) (ha : 0 ≤ a ∧ a ≤ 255) (hb : 0 ≤ b ∧ b ≤ 255) :
    (((strOfNums s).extract i (i + 2)).toList == [UInt8.ofNat a.toNat, UInt8.ofNat b.toNat]) = decide (s.getD i 0 = a ∧ s.getD (i + 1) 0 = b) := by
  rw [str_cut, str_list, show i + 2 - i = 2 by omega, drop_at (show i < s.length by omega), drop_at h]
  have h1 := hz i
  have h2 := hz (i + 1)
  generalize s.getD i 0 = x at h1
  generalize s.getD (i + 1) 0 = y at h2
  rw [Bool.eq_iff_iff]
  simp only [List.take, List.map_cons, List.map_nil, beq_iff_eq, List.cons.injEq, and_true, decide_eq_true_eq]
  exact ⟨fun h => ⟨u8_inj h1 ha h.1, u8_inj h2 hb h.2⟩, fun h => by rw [h.1, h.2]; exact ⟨rfl, rfl⟩⟩

/-- A piece of a text, its bounds as the walk spells them. -/
theorem run_cut (S : ByteArray) (i j : Nat) (ii jj : Int) (hi : ii = (i : Int)) (hj : jj = (j : Int)) (h1 : i ≤ j) (h2 : j ≤ S.size) :
    ∀ W, (Instr.slice 9 (.string S) (some (.int .i64 ii)) (some (.int .i64 jj)) none).run Tryz.prog W = .ok (.string (S.extract i j)) W := fun W => by
  subst hi hj
  rw [run_slice_string W 9 S .i64 .i64 (i : Int) (j : Int) Tryz.underlying9 (by omega) (by omega) (by omega)]
  simp

theorem run_cut_to (S : ByteArray) (i : Nat) (ii : Int) (hi : ii = (i : Int)) (h1 : i ≤ S.size) :
    ∀ W, (Instr.slice 9 (.string S) (some (.int .i64 ii)) none none).run Tryz.prog W = .ok (.string (S.extract i S.size)) W := fun W => by
  subst hi
  rw [run_slice_string_l W 9 S Tryz.underlying9 .i64 (i : Int) (by omega) (by omega)]
  simp

/-- A slice of numbers (int) that is read. -/
def Is (w : World) (a : Option Addr) (len cap : Nat) (ms : List Nat) : Prop :=
  ms.length = len ∧ len ≤ cap ∧ (a = none → cap = 0) ∧ (0 < len → ∃ b off, a = some ⟨b, off, none⟩ ∧ b < w.heap.size ∧ ∀ i, i < len → w.cell? ⟨b, off + i, none⟩ = some (.int .i64 ((ms.getD i 0 : Nat) : Int)))

theorem Is.below {w w' : World} {a : Option Addr} {len cap : Nat} {ms : List Nat} (h : Is w a len cap ms) {B : Nat} (hb : Below B w w') (hB : w.heap.size ≤ B) : Is w' a len cap ms := by
  obtain ⟨h1, h2, h3, h4⟩ := h
  refine ⟨h1, h2, h3, fun hp => ?_⟩
  obtain ⟨b, off, rfl, hlt, hc⟩ := h4 hp
  exact ⟨b, off, rfl, Nat.lt_of_lt_of_le hlt hb.size, fun i hi => (hb.cell (show b < B by omega)).trans (hc i hi)⟩

theorem Is.of_owns {w : World} {base n : Nat} {a : Option Addr} {len cap : Nat} {ms : List Nat} (h : w.ownsRow base 3 1 (.slice a len cap) n (ms.map fun m => Value.int .i64 ((m : Nat) : Int))) : Is w a len cap ms := by
  have hz := h.1
  simp at hz
  rcases h.2 with ⟨he, hn⟩ | ⟨g, c, cur, he, hg, hh, h1, h2, h3, h4⟩
  · simp at he
    obtain ⟨rfl, rfl, rfl⟩ := he
    have : ms = [] := List.eq_nil_of_length_eq_zero (by omega)
    subst this
    exact ⟨rfl, Nat.le_refl _, fun _ => rfl, fun h => absurd h (by omega)⟩
  · simp at he
    obtain ⟨rfl, rfl, rfl⟩ := he
    refine ⟨hz, h1, fun h => by simp at h, fun hp => ⟨g, 0, rfl, (h.lt g rfl).2, fun i hi => ?_⟩⟩
    have := h.cellAt i (by omega)
    rw [Nat.zero_add, this]
    simp [List.getElem?_eq_getElem (show i < ms.length by omega), List.getD]

theorem linside_short (l : List Nat) (k : Nat) (h : l.length ≤ 1) : linside l k = false := by
  match l, h with
  | [], _ => rfl
  | [a], _ => rfl
  | a :: b :: r, h => simp at h

theorem drop_atN {l : List Nat} {k : Nat} (h : k < l.length) : l.drop k = l.getD k 0 :: l.drop (k + 1) := by
  rw [List.drop_eq_getElem_cons h]
  simp [List.getD, List.getElem?_eq_getElem h]

end Go.Proofs.YtmoeibhenihhfaaGreatDoor

/- The contracts of the document's own answers on numbers (the reference's Number, Digits), over the turned text. -/
namespace Go.Proofs.YtmoeibhenihhfaaGreatDoor
open Go.RowKit
set_option linter.unusedVariables false

theorem enc_1 (c : Int) (h0 : 0 ≤ c) (h1 : c < 128) : Utf8.encode c = strOfNums [c] := by
  have hv : Utf8.valid c = true := by unfold Utf8.valid; simp; omega
  unfold Utf8.encode
  rw [hv]
  simp only [if_true]
  rw [if_pos (by omega)]
  rfl

theorem str_app (a b : List Int) : strOfNums a ++ strOfNums b = strOfNums (a ++ b) := by
  unfold strOfNums
  rw [ByteArray.mk_append_mk, List.map_append]

theorem run_add (w : World) (a b : List Int) (h : a.length + b.length ≤ 9223372036854775807) : (Op.stringOp .add (strOfNums a) (strOfNums b)).run Tryz.prog w = .ok (.string (strOfNums (a ++ b))) w := by
  rw [run_string_add_sum w _ _ (by rw [strOfNums_size, strOfNums_size]; exact h), str_app]

end Go.Proofs.YtmoeibhenihhfaaGreatDoor

/- The contracts of the reference's own Ident, Join, Parent, camel, Json, Entry. -/
namespace Go.Proofs.YtmoeibhenihhfaaGreatDoor
open Go.RowKit
set_option linter.unusedVariables false
set_option linter.unusedSimpArgs false

theorem nident_big (s : List Int) (h : 200 < s.length ∨ s.length = 0) : nident s = false := by
  unfold nident
  rw [decide_eq_false (by omega)]
  simp

theorem nident_bad (s : List Int) (k : Nat) (hk : k < s.length) (h : lletter (s.getD k 0) = false) : nident s = false := by
  unfold nident
  have : s.all lletter = false := by
    rw [List.all_eq_false]
    refine ⟨s[k], List.getElem_mem hk, ?_⟩
    rw [show s.getD k 0 = s[k] by simp [List.getD, hk]] at h
    rw [h]; decide
  rw [this]; rfl

theorem nident_good (s : List Int) (h : ∀ k, k < s.length → lletter (s.getD k 0) = true) (h1 : 1 ≤ s.length) (h2 : s.length ≤ 200) : nident s = !lnumb (s.getD 0 0) := by
  unfold nident
  have : s.all lletter = true := by
    rw [List.all_eq_true]
    intro c hc
    obtain ⟨k, hk, rfl⟩ := List.getElem_of_mem hc
    have := h k hk
    rwa [show s.getD k 0 = s[k] by simp [List.getD, hk]] at this
  rw [this, decide_eq_true ⟨h1, h2⟩]; rfl

end Go.Proofs.YtmoeibhenihhfaaGreatDoor

/- The contract of the reference's own Parent. -/
namespace Go.Proofs.YtmoeibhenihhfaaGreatDoor
open Go.RowKit
set_option linter.unusedVariables false
set_option linter.unusedSimpArgs false

/-- 's[:k]' of a text. -/
theorem run_head (s : List Int) (k : Nat) (hk : k ≤ s.length) (hl : (s.length : Int) ≤ 9223372036854775807) : ∀ W, (Instr.slice 9 (.string (strOfNums s)) none (some (.int .i64 (k : Int))) none).run Tryz.prog W = .ok (.string (strOfNums (s.take k))) W := fun W => by
  have hsz := strOfNums_size s
  rw [run_slice_string_h (P := Tryz.prog) W 9 (strOfNums s) Tryz.underlying9 .i64 (k : Int) (by omega) (by omega)]
  rw [Int.toNat_natCast, str_cut]
  simp

/-- 's[k:]' of a text. -/
theorem run_tail (s : List Int) (k : Nat) (hk : k ≤ s.length) (ii : Int) (hi : ii = (k : Int)) : ∀ W, (Instr.slice 9 (.string (strOfNums s)) (some (.int .i64 ii)) none none).run Tryz.prog W = .ok (.string (strOfNums (s.drop k))) W := fun W => by
  rw [run_cut_to (strOfNums s) k ii hi (by rw [strOfNums_size]; exact hk) W, str_cut, strOfNums_size, List.take_of_length_le (by simp)]

end Go.Proofs.YtmoeibhenihhfaaGreatDoor

/- Lists of texts in memory: what a slice of texts holds; one text more; whether a text is among them (the reference's In), which lists are alike (the reference's Same), a name that is not taken (the reference's Synthetic). -/
namespace Go.Proofs.YtmoeibhenihhfaaGreatDoor
open Go.RowKit
set_option linter.unusedVariables false
set_option linter.unusedSimpArgs false

def scell (z : List Int) : Value := .string (strOfNums z)

def byts (z : List Int) : Prop := ∀ c ∈ z, 0 ≤ c ∧ c ≤ 255

/-- The slice at a, of len texts, holds zs in the world w. -/
def Ss (w : World) (a : Option Addr) (len cap : Nat) (zs : List (List Int)) : Prop :=
  zs.length = len ∧ (len : Int) ≤ 9223372036854775807 ∧ len ≤ cap ∧ (a = none → cap = 0) ∧ (∀ z ∈ zs, byts z) ∧
    (0 < len → ∃ b off, a = some ⟨b, off, none⟩ ∧ b < w.heap.size ∧ ∀ i z, zs[i]? = some z → w.cell? ⟨b, off + i, none⟩ = some (scell z))

theorem Ss.below {w w' : World} {a : Option Addr} {len cap : Nat} {zs : List (List Int)} (h : Ss w a len cap zs) {B : Nat} (hb : Below B w w') (hB : w.heap.size ≤ B) : Ss w' a len cap zs := by
  obtain ⟨h1, h2, h3, h4, h5, h6⟩ := h
  refine ⟨h1, h2, h3, h4, h5, fun hp => ?_⟩
  obtain ⟨b, off, rfl, hlt, hc⟩ := h6 hp
  exact ⟨b, off, rfl, Nat.lt_of_lt_of_le hlt hb.size, fun i z hi => (hb.cell (show b < B by omega)).trans (hc i z hi)⟩

/-- The call's own list of texts. -/
def So (w : World) (base : Nat) (v : Value) (zs : List (List Int)) : Prop := w.ownsRow base 9 1 v zs.length (zs.map scell) ∧ ∀ z ∈ zs, byts z

theorem So.nil (w : World) (base : Nat) : So w base (.slice none 0 0) [] := ⟨World.ownsRow_nil _ _ _ _, by simp⟩

theorem So.below {w w' : World} {base : Nat} {v : Value} {zs : List (List Int)} (h : So w base v zs) (hb : Below w.heap.size w w') : So w' base v zs := ⟨own_below h.1 hb, h.2⟩

theorem So.base {w : World} {base base' : Nat} {v : Value} {zs : List (List Int)} (h : So w base v zs) (hb : base' ≤ base) : So w base' v zs := ⟨own_base h.1 hb, h.2⟩

theorem So.slice {w : World} {base : Nat} {v : Value} {zs : List (List Int)} (h : So w base v zs) : ∃ a c, v = .slice a zs.length c := own_slice h.1

theorem Ss.of_own {w : World} {base : Nat} {a : Option Addr} {len cap : Nat} {zs : List (List Int)} (h : So w base (.slice a len cap) zs) : Ss w a len cap zs := by
  obtain ⟨ho, hr⟩ := h
  rcases ho.2 with ⟨he, hn⟩ | ⟨g, c, cur, he, hg, hh, h1, h2, h3, h4⟩
  · simp at he
    obtain ⟨rfl, rfl, rfl⟩ := he
    exact ⟨hn, by omega, Nat.le_refl _, fun _ => rfl, hr, fun h => absurd h (by omega)⟩
  · simp at he
    obtain ⟨rfl, rfl, rfl⟩ := he
    refine ⟨rfl, by unfold maxLen at h2; omega, h1, fun h => by simp at h, hr, fun _ => ⟨g, 0, rfl, (ho.lt g rfl).2, fun i z hi => ?_⟩⟩
    have hil : i < zs.length := (List.getElem?_eq_some_iff.1 hi).1
    have := ho.cellAt i (by omega)
    rw [Nat.zero_add, this]
    simp [hi]

theorem Tryz.infoStr : (Tryz.prog.info? 9).map (fun i => (i.zero, i.size, i.bytes)) = some (some (.string { data := #[] }), 1, 16) := by kernel_rfl

theorem So.grown {w w0 w' : World} {base : Nat} {v : Value} {zs : List (List Int)} (h : So w base v zs) (hB : Below base w0 w) (hb : base ≤ w.heap.size) (hg : w.grownBy w' v.ownBlock) : Below base w0 w' :=
  hB.grown hg hb (fun k hk => (h.1.lt k hk).1)

theorem str_cell (W : World) (s : ByteArray) : (W.alloc (.cells #[.string s] 9)).cell? ⟨W.heap.size, 0, none⟩ = some (.string s) := by
  rw [World.cell?_alloc_new]; rfl

end Go.Proofs.YtmoeibhenihhfaaGreatDoor

/- Nodes in memory: a tree, that it lies in a world, and how one that came in is opened. -/
namespace Go.Proofs.YtmoeibhenihhfaaGreatDoor
open Go.RowKit
set_option linter.unusedVariables false
set_option linter.unusedSimpArgs false

/-- A node, and where its kids lie. -/
inductive Tn where
  | mk (kind : Int) (text : List Int) (n m a pos : Int) (doc : List Int) (ad : Option Addr) (cap : Nat) (kids : List Tn) : Tn

def Tn.kind : Tn → Int | .mk k _ _ _ _ _ _ _ _ _ => k
def Tn.text : Tn → List Int | .mk _ t _ _ _ _ _ _ _ _ => t
def Tn.kids : Tn → List Tn | .mk _ _ _ _ _ _ _ _ _ k => k
def Tn.cells : Tn → List Value
  | .mk kind text n m a pos doc ad cap kids => [.int .i64 kind, .string (strOfNums text), .int .i64 n, .int .i64 m, .int .i64 a, .int .i64 pos, .string (strOfNums doc), .slice ad kids.length cap]
def Tn.val (t : Tn) : Value := .agg t.cells.toArray

def i64b (x : Int) : Prop := -9223372036854775808 ≤ x ∧ x ≤ 9223372036854775807

/-- A tree that lies in the world w. -/
inductive TnOk (w : World) : Tn → Prop
  | mk {kind : Int} {text : List Int} {n m a pos : Int} {doc : List Int} {ad : Option Addr} {cap : Nat} {kids : List Tn} (hkind : i64b kind) (htext : byts text) (htl : (text.length : Int) ≤ 9223372036854775807) (hn : i64b n) (hm : i64b m) (ha : i64b a) (hpos : i64b pos)
      (hdoc : byts doc) (hdl : (doc.length : Int) ≤ 9223372036854775807) (hkl : (kids.length : Int) ≤ 9223372036854775807) (hcap : kids.length ≤ cap) (hnone : ad = none → cap = 0)
      (hmem : 0 < kids.length → ∃ b off, ad = some ⟨b, off, none⟩ ∧ b < w.heap.size ∧ ∀ (i : Nat) (t : Tn), kids[i]? = some t → ∀ (j : Nat) (u : Value), t.cells[j]? = some u → w.cell? ⟨b, off + i * 8 + j, none⟩ = some u)
      (hkids : ∀ (i : Nat) (t : Tn), kids[i]? = some t → TnOk w t) : TnOk w (.mk kind text n m a pos doc ad cap kids)

theorem TnOk.under {w w' : World} {t : Tn} (h : TnOk w t) (hb : Below w.heap.size w w') : TnOk w' t := by
  induction h with
  | mk hkind htext htl hn hm ha hpos hdoc hdl hkl hcap hnone hmem hkids ih =>
    refine .mk hkind htext htl hn hm ha hpos hdoc hdl hkl hcap hnone (fun hp => ?_) ih
    obtain ⟨b, off, h1, h2, h3⟩ := hmem hp
    exact ⟨b, off, h1, Nat.lt_of_lt_of_le h2 hb.size, fun i t hi j u hj => (hb.cell h2).trans (h3 i t hi j u hj)⟩

open Go.ChangeShapes Go.WideShapes Go.ChangeAt

theorem add_add' (b off i j : Nat) : ((⟨b, off, none⟩ : Addr).add i).add j = ⟨b, off + i + j, none⟩ := by
  have h1 : (⟨b, off, none⟩ : Addr).add i = ⟨b, off + i, none⟩ := by unfold Addr.add; split <;> simp_all
  rw [h1]
  unfold Addr.add
  split <;> simp_all

theorem eight {α : Type} {l : List α} (h : l.length = 8) : ∃ c0 c1 c2 c3 c4 c5 c6 c7, l = [c0, c1, c2, c3, c4, c5, c6, c7] := by
  match l, h with
  | [c0, c1, c2, c3, c4, c5, c6, c7], _ => exact ⟨c0, c1, c2, c3, c4, c5, c6, c7, rfl⟩

theorem node_open {H : Type} {enc : TypeId × Value → H} {W : World} : ∀ (fuel : Nat) (cs : List Value) (x : DataW H × List MemPlace),
    DataW.trod enc Tryz.prog W 0 (fun _ => true) true fuel 24 cs = some x → ∃ t, TnOk W t ∧ cs = t.cells := by
  intro fuel
  induction fuel using Nat.strongRecOn with
  | _ fuel ih =>
    intro cs x hf
    obtain ⟨xs, n, hfu, _, hl, hlen, hfl⟩ := DataW.trod_struct Tryz.underlying24 hf
    have k8 : Tryz.prog.cellsOf 24 = 8 := by kernel_rfl
    rw [k8] at hl
    obtain ⟨c0, c1, c2, c3, c4, c5, c6, c7, rfl⟩ := eight hl
    have k1 : Tryz.prog.cellsOf 3 = 1 := by kernel_rfl
    have k2 : Tryz.prog.cellsOf 2 = 1 := by kernel_rfl
    have k3 : Tryz.prog.cellsOf 9 = 1 := by kernel_rfl
    have k4 : Tryz.prog.cellsOf 22 = 1 := by kernel_rfl
    obtain ⟨y0, y1, y2, y3, y4, y5, y6, y7, rfl⟩ := eight (l := xs) hlen
    have t0 : DataW.trod enc Tryz.prog W 0 (fun _ => true) true n 3 [c0] = some y0 := by have h := hfl 0 _ rfl; simpa [k1] using h
    have t1 : DataW.trod enc Tryz.prog W 0 (fun _ => true) true n 9 [c1] = some y1 := by have h := hfl 1 _ rfl; simpa [k3] using h
    have t2 : DataW.trod enc Tryz.prog W 0 (fun _ => true) true n 2 [c2] = some y2 := by have h := hfl 2 _ rfl; simpa [k2] using h
    have t3 : DataW.trod enc Tryz.prog W 0 (fun _ => true) true n 2 [c3] = some y3 := by have h := hfl 3 _ rfl; simpa [k2] using h
    have t4 : DataW.trod enc Tryz.prog W 0 (fun _ => true) true n 3 [c4] = some y4 := by have h := hfl 4 _ rfl; simpa [k1] using h
    have t5 : DataW.trod enc Tryz.prog W 0 (fun _ => true) true n 3 [c5] = some y5 := by have h := hfl 5 _ rfl; simpa [k1] using h
    have t6 : DataW.trod enc Tryz.prog W 0 (fun _ => true) true n 9 [c6] = some y6 := by have h := hfl 6 _ rfl; simpa [k3] using h
    have t7 : DataW.trod enc Tryz.prog W 0 (fun _ => true) true n 22 [c7] = some y7 := by have h := hfl 7 _ rfl; simpa [k4] using h
    obtain ⟨kind, e0, _, w0⟩ := DataW.trod_int Tryz.underlying3 t0
    obtain ⟨s1, e1, _, w1⟩ := DataW.trod_string Tryz.underlying9 t1
    obtain ⟨nn, e2, _, w2⟩ := DataW.trod_int Tryz.underlying2 t2
    obtain ⟨mm, e3, _, w3⟩ := DataW.trod_int Tryz.underlying2 t3
    obtain ⟨aa, e4, _, w4⟩ := DataW.trod_int Tryz.underlying3 t4
    obtain ⟨pp, e5, _, w5⟩ := DataW.trod_int Tryz.underlying3 t5
    obtain ⟨s6, e6, _, w6⟩ := DataW.trod_string Tryz.underlying9 t6
    simp at e0 e1 e2 e3 e4 e5 e6
    subst e0 e1 e2 e3 e4 e5 e6
    obtain ⟨z1, hz1, hb1⟩ := str_nums s1
    obtain ⟨z6, hz6, hb6⟩ := str_nums s6
    subst hz1 hz6
    have l1 : (z1.length : Int) ≤ 9223372036854775807 := by rw [strOfNums_size] at w1; unfold maxLen at w1; omega
    have l6 : (z6.length : Int) ≤ 9223372036854775807 := by rw [strOfNums_size] at w6; unfold maxLen at w6; omega
    rcases DataW.trod_slice Tryz.underlying22 t7 with ⟨hcs, _⟩ | ⟨y, l, c, elems, rest, n', hn', hcs, _, _, hl', hm, hel, hx, _, _⟩
    · simp at hcs
      subst hcs
      exact ⟨.mk kind z1 nn mm aa pp z6 none 0 [], .mk (bounds_i64 w0) (mem_bd hb1) l1 (bounds_i64 w2) (bounds_i64 w3) (bounds_i64 w4) (bounds_i64 w5) (mem_bd hb6) l6 (by simp) (by simp) (fun _ => rfl) (fun h => absurd h (by simp)) (fun i t h => by simp at h), rfl⟩
    · simp at hcs
      subst hcs
      have hpick : ∀ i, ∃ t : Tn, i < l → TnOk W t ∧ W.cells? 0 (y.add (i * 8)) 8 = some t.cells := by
        intro i
        by_cases hi : i < l
        · have h1 := hx i hi
          rw [k8, List.getElem?_eq_getElem (by omega), Option.bind_eq_some_iff] at h1
          obtain ⟨cs', h2, h3⟩ := h1
          obtain ⟨t, ht, hc⟩ := ih n' (by omega) cs' _ h3
          exact ⟨t, fun _ => ⟨ht, by rw [h2, hc]⟩⟩
        · exact ⟨.mk 0 [] 0 0 0 0 [] none 0 [], fun h => absurd h hi⟩
      obtain ⟨f, hfn⟩ := Classical.axiomOfChoice hpick
      have hl8 : ∀ t : Tn, t.cells.length = 8 := fun t => by cases t; rfl
      have hkid : ∀ (i : Nat) (t : Tn), ((List.range l).map f)[i]? = some t → i < l ∧ t = f i := by
        intro i t hi
        have hil : i < l := by
          have := (List.getElem?_eq_some_iff.1 hi).1
          simpa using this
        simp [hil] at hi
        exact ⟨hil, hi.symm⟩
      refine ⟨.mk kind z1 nn mm aa pp z6 (some y) c ((List.range l).map f), .mk (bounds_i64 w0) (mem_bd hb1) l1 (bounds_i64 w2) (bounds_i64 w3) (bounds_i64 w4) (bounds_i64 w5) (mem_bd hb6) l6 (by simp; unfold maxLen at hm; omega) (by simpa using hl') (fun h => by simp at h) (fun hp => ?_) (fun i t hi => ?_), by simp [Tn.cells]⟩
      · obtain ⟨b, off, spot⟩ := y
        have h0 := (hfn 0 (by simpa using hp)).2
        obtain ⟨_, hlen0, hc0⟩ := World.cells?_some h0
        have hsp : W.cell? (((⟨b, off, spot⟩ : Addr).add (0 * 8)).add 0) = some ((f 0).cells[0]'(by rw [hl8]; omega)) := (hc0 0 (by omega)).trans (List.getElem?_eq_getElem _)
        have hspot : spot = none := by simpa [Addr.add] using World.cell?_spot hsp
        subst hspot
        refine ⟨b, off, rfl, ?_, ?_⟩
        · rcases Nat.lt_or_ge b W.heap.size with h | h
          · exact h
          · simp [World.cell?, Addr.add, Array.getElem?_eq_none h] at hsp
        · intro i t hi j u hj
          obtain ⟨hil, rfl⟩ := hkid i t hi
          obtain ⟨_, hlen1, hc1⟩ := World.cells?_some (hfn i hil).2
          have hjl : j < (f i).cells.length := (List.getElem?_eq_some_iff.1 hj).1
          have := hc1 j (by rw [hl8] at hjl; exact hjl)
          rw [add_add'] at this
          rw [this]
          exact hj
      · obtain ⟨hil, rfl⟩ := hkid i t hi
        exact (hfn i hil).1

theorem node_arg {H : Type} {enc : TypeId × Value → H} {W : World} {r : Reach} {b0 : Nat} {v : Value} {d : DataW H} {p : List MemPlace} (hv : Value.okWide Tryz.prog W r b0 24 v)
    (h : DataW.Trod enc Tryz.prog W 0 (fun _ => true) true 24 v d p) : ∃ t : Tn, v = t.val ∧ TnOk W t := by
  obtain ⟨cs, rfl, hsz⟩ := okWide_struct Tryz.underlying24 hv
  obtain ⟨fuel, hf⟩ := h
  obtain ⟨t, ht, hc⟩ := node_open fuel cs.toList (d, p) (by simpa [Value.cells] using hf)
  refine ⟨t, ?_, ht⟩
  unfold Tn.val
  rw [← hc]

end Go.Proofs.YtmoeibhenihhfaaGreatDoor
