/- Put together by a program out of these texts of mine: NMath, URef, QRef, QEsc, QTak, LRef, LRef2, QNum, NRef, NRef2, NStr, NRef3, NRef4, NStr2, NRef5, NPa, NSh, NPe. -/
import Derived.Deep.QuietTactic
import Derived.BigQuiet
import Derived.WalkSmall
import Derived.SliceStrings
import Derived.Lib.OthersKept
import Derived.Shelf.LaysM
import Derived.Shelf.Strconv.Clone
import Derived.Shelf.Strings.LastIndex
import Derived.Test.YtjbppjemilijdaaProg
import Derived.Deep.RegionWith
import Derived.Test.YtjbppjemilijdaaBunA1
import Derived.Test.YtjbppjemilijdaaBunA7

/- Names as plain functions over lists of numbers. -/
namespace Go.Proofs.Ytjbppjemilijdaa
set_option linter.unusedSimpArgs false
set_option linter.unusedVariables false

/-- Letters, digits, '_'. -/
def nident (s : List Int) : Bool := s.all lletter && decide (1 ≤ s.length ∧ s.length ≤ 200) && !lnumb (s.getD 0 0)

/-- What stands between points, 'cur' read already. -/
def nsp : List Int → List Int → List (List Int)
  | cur, [] => [cur]
  | cur, c :: r => if c = 46 then cur :: nsp [] r else nsp (cur ++ [c]) r

def nparts (s : List Int) : List (List Int) := nsp [] s

def nfull (s : List Int) : Bool := decide (s.length ≤ 1000) && (nparts s).all nident

def njoin (a b : List Int) : List Int := if a = [] then b else a ++ [46] ++ b

/-- Where the last point ahead of place k stands, and one more; 0: none. -/
def nlast (s : List Int) : Nat → Nat
  | 0 => 0
  | k + 1 => if s.getD k 0 = 46 then k + 1 else nlast s k

theorem nlast_le (s : List Int) : ∀ k, nlast s k ≤ k
  | 0 => Nat.le_refl _
  | k + 1 => by
    unfold nlast
    split
    · exact Nat.le_refl _
    · have := nlast_le s k; omega

def nparent (s : List Int) : List Int × List Int :=
  if nlast s s.length = 0 then ([], s) else (s.take (nlast s s.length - 1), s.drop (nlast s s.length))

theorem nparent_lt (s : List Int) (h : s ≠ []) : (nparent s).1.length < s.length := by
  unfold nparent
  have hl : 0 < s.length := List.length_pos_iff.2 h
  split
  · simpa using hl
  · have := nlast_le s s.length
    simp only [List.length_take]
    omega

/-- Where a name is looked for, from a scope on. -/
def nplc (name : List Int) : Nat → List Int → List (List Int)
  | 0, _ => [name]
  | f + 1, scope => if scope = [] then [name] else njoin scope name :: nplc name f (nparent scope).1

def nplaces (scope name : List Int) : List (List Int) :=
  if name.getD 0 0 = 46 then [name.drop 1] else nplc name scope.length scope

theorem nplc_fuel (name : List Int) : ∀ (f g : Nat) (s : List Int), s.length ≤ f → s.length ≤ g → nplc name f s = nplc name g s
  | 0, 0, s, _, _ => rfl
  | 0, g + 1, s, h, _ => by
    have : s = [] := List.eq_nil_of_length_eq_zero (by omega)
    rw [nplc, nplc, if_pos this]
  | f + 1, 0, s, _, h => by
    have : s = [] := List.eq_nil_of_length_eq_zero (by omega)
    rw [nplc, nplc, if_pos this]
  | f + 1, g + 1, s, h1, h2 => by
    rw [nplc, nplc]
    by_cases k : s = []
    · rw [if_pos k, if_pos k]
    · rw [if_neg k, if_neg k]
      have := nparent_lt s k
      rw [nplc_fuel name f g _ (by omega) (by omega)]

/-- Without '_', letters behind one made great. -/
def ncam : Bool → List Int → List Int
  | _, [] => []
  | g, c :: r => if c = 95 then ncam true r else (if g = true ∧ 97 ≤ c ∧ c ≤ 122 then c - 32 else c) :: ncam false r

def nentry : List Int := [69, 110, 116, 114, 121]

theorem ncam_len : ∀ (s : List Int) (g : Bool), (ncam g s).length ≤ s.length
  | [], g => by simp [ncam]
  | c :: r, g => by
    rw [ncam]
    split
    · have := ncam_len r true; simp only [List.length_cons]; omega
    · have := ncam_len r false; simp only [List.length_cons]; omega

theorem ncam_bd : ∀ (s : List Int) (g : Bool), (∀ c ∈ s, 0 ≤ c ∧ c ≤ 255) → ∀ c ∈ ncam g s, 0 ≤ c ∧ c ≤ 255
  | [], g, h => by simp [ncam]
  | c :: r, g, h => by
    rw [ncam]
    have hr : ∀ x ∈ r, 0 ≤ x ∧ x ≤ 255 := fun x hx => h x (by simp [hx])
    have hc := h c (by simp)
    split
    · exact ncam_bd r true hr
    · intro x hx
      rcases List.mem_cons.1 hx with hx | hx
      · subst hx
        split <;> omega
      · exact ncam_bd r false hr x hx

/-- '_' and name; X ahead as long as it is taken, at most so often. -/
def nsyn (taken : List (List Int)) : Nat → List Int → List Int
  | 0, s => s
  | f + 1, s => nsyn taken f (if s ∈ taken then 88 :: s else s)

/- A name that is not taken: of one more than there are, one is not among them. -/
theorem nsyn_stay (taken : List (List Int)) : ∀ (f : Nat) (s : List Int), s ∉ taken → nsyn taken f s = s
  | 0, s, _ => rfl
  | f + 1, s, h => by rw [nsyn, if_neg h, nsyn_stay taken f s h]

def nxs : Nat → List Int → List Int
  | 0, s => s
  | k + 1, s => 88 :: nxs k s

theorem nxs_len (s : List Int) : ∀ k, (nxs k s).length = k + s.length
  | 0 => by simp [nxs]
  | k + 1 => by rw [nxs, List.length_cons, nxs_len s k]; omega

theorem nxs_out (s : List Int) : ∀ k, nxs k (88 :: s) = 88 :: nxs k s
  | 0 => rfl
  | k + 1 => by rw [nxs, nxs_out s k, nxs]

theorem nsyn_walk (taken : List (List Int)) : ∀ (f : Nat) (s : List Int), nsyn taken f s ∉ taken ∨ (nsyn taken f s = nxs f s ∧ ∀ k, k ≤ f → nxs k s ∈ taken)
  | 0, s => by
    by_cases h : s ∈ taken
    · exact .inr ⟨rfl, fun k hk => by rw [show k = 0 by omega]; exact h⟩
    · exact .inl h
  | f + 1, s => by
    rw [nsyn]
    by_cases h : s ∈ taken
    · rw [if_pos h]
      rcases nsyn_walk taken f (88 :: s) with g | ⟨g1, g2⟩
      · exact .inl g
      · right
        rw [g1, nxs_out]
        refine ⟨rfl, fun k hk => ?_⟩
        match k with
        | 0 => exact h
        | k + 1 =>
          have := g2 k (by omega)
          rw [nxs_out] at this
          exact this
    · rw [if_neg h, nsyn_stay taken f s h]
      exact .inl h

/-- More texts of different lengths than a list has do not all lie in it. -/
theorem too_many (s : List Int) : ∀ (n : Nat) (l : List (List Int)), (∀ k, k ≤ n → nxs k s ∈ l) → n < l.length
  | 0, l, h => by
    have := h 0 (Nat.le_refl _)
    cases l with
    | nil => simp at this
    | cons a b => simp
  | n + 1, l, h => by
    have hm := h (n + 1) (Nat.le_refl _)
    have ih := too_many s n (l.erase (nxs (n + 1) s)) (fun k hk => by
      refine (List.mem_erase_of_ne ?_).2 (h k (by omega))
      intro e
      have := congrArg List.length e
      rw [nxs_len, nxs_len] at this
      omega)
    rw [List.length_erase_of_mem hm] at ih
    omega

theorem nsyn_free (taken : List (List Int)) (s : List Int) : nsyn taken taken.length s ∉ taken := by
  rcases nsyn_walk taken taken.length s with h | ⟨_, h⟩
  · exact h
  · have := too_many s taken.length taken h
    omega

/- A full name and a name behind it come apart again. -/
theorem nlast_none (s : List Int) : ∀ k, (∀ p, p < k → s.getD p 0 ≠ 46) → nlast s k = 0
  | 0, _ => rfl
  | k + 1, h => by rw [nlast, if_neg (h k (by omega)), nlast_none s k (fun p hp => h p (by omega))]

theorem nlast_at (s : List Int) (j : Nat) (hj : s.getD j 0 = 46) : ∀ k, j < k → (∀ p, j < p → p < k → s.getD p 0 ≠ 46) → nlast s k = j + 1
  | 0, h, _ => by omega
  | k + 1, h, hn => by
    rw [nlast]
    by_cases e : j = k
    · subst e; rw [if_pos hj]
    · rw [if_neg (hn k (by omega) (by omega)), nlast_at s j hj k (by omega) (fun p h1 h2 => hn p h1 (by omega))]

theorem nparent_join (a b : List Int) (ha : a ≠ []) (hb : ∀ c ∈ b, c ≠ 46) : nparent (njoin a b) = (a, b) := by
  unfold njoin
  rw [if_neg ha]
  have hl : nlast (a ++ [46] ++ b) (a ++ [46] ++ b).length = a.length + 1 := by
    refine nlast_at _ a.length ?_ _ ?_ ?_
    · simp [List.getD]
    · simp
    · intro p h1 h2
      have hp : p - (a.length + 1) < b.length := by simp only [List.length_append, List.length_cons, List.length_nil] at h2; omega
      have e : (a ++ [46] ++ b).getD p 0 = b[p - (a.length + 1)] := by
        rw [List.getD, List.getElem?_append_right (by simp; omega)]
        simp only [List.length_append, List.length_cons, List.length_nil, Nat.zero_add]
        rw [List.getElem?_eq_getElem hp]
        rfl
      rw [e]
      exact hb _ (List.getElem_mem hp)
  unfold nparent
  rw [hl, if_neg (by omega)]
  simp

theorem nsp_join : ∀ (a b cur : List Int), nsp cur (a ++ 46 :: b) = nsp cur a ++ nsp [] b
  | [], b, cur => by simp [nsp]
  | c :: r, b, cur => by
    rw [List.cons_append, nsp, nsp]
    by_cases k : c = 46
    · rw [if_pos k, if_pos k, nsp_join r b []]; rfl
    · rw [if_neg k, if_neg k, nsp_join r b (cur ++ [c])]

theorem nsp_one : ∀ (b cur : List Int), (∀ c ∈ b, c ≠ 46) → nsp cur b = [cur ++ b]
  | [], cur, _ => by simp [nsp]
  | c :: r, cur, h => by
    rw [nsp, if_neg (h c (by simp)), nsp_one r (cur ++ [c]) (fun x hx => h x (by simp [hx]))]
    simp

theorem nident_no (b : List Int) (h : nident b = true) : ∀ c ∈ b, c ≠ 46 := by
  unfold nident at h
  simp only [Bool.and_eq_true, List.all_eq_true] at h
  intro c hc e
  have := h.1.1 c hc
  rw [e] at this
  exact absurd this (by decide)

theorem nident_len (b : List Int) (h : nident b = true) : 1 ≤ b.length ∧ b.length ≤ 200 := by
  unfold nident at h
  simp only [Bool.and_eq_true, decide_eq_true_eq] at h
  exact h.1.2

theorem nfull_nil : nfull [] = false := by decide

theorem nfull_join (a b : List Int) (ha : nfull a = true) (hl : a.length ≤ 100) (hb : nident b = true) : nfull (njoin a b) = true := by
  have hne : a ≠ [] := fun h => by rw [h, nfull_nil] at ha; exact absurd ha (by decide)
  have h1 := nident_len b hb
  unfold nfull njoin nparts at *
  rw [if_neg hne, show a ++ [46] ++ b = a ++ 46 :: b by simp, nsp_join, nsp_one b [] (nident_no b hb)]
  simp only [Bool.and_eq_true, decide_eq_true_eq, List.all_append, List.all_cons, List.all_nil, Bool.and_true, List.nil_append] at ha ⊢
  exact ⟨by simp only [List.length_append, List.length_cons]; omega, ha.2, hb⟩

end Go.Proofs.Ytjbppjemilijdaa

/- The contracts of the document's own answers on characters (the reference's character, PutRune, Rune, Count), over the turned text. -/
namespace Go.Proofs.Ytjbppjemilijdaa
open Go.RowKit

/-- A slice written out is the call's own row. -/
theorem lit_row (w : World) (e : TypeId) (xs : Array Value) (n : Nat) (hn : xs.size = n) (hm : n ≤ 1000) : (w.alloc (.cells xs e)).ownsRow w.heap.size e 1 (.slice (some ⟨w.heap.size, 0, none⟩) n n) n xs.toList := by
  subst hn
  refine ⟨by simp, .inr ⟨w.heap.size, xs.size, xs, rfl, Nat.le_refl _, heap_alloc_new _ _, Nat.le_refl _, by unfold maxLen; omega, by simp, by rw [Nat.mul_one]; exact List.take_of_length_le (by simp)⟩⟩

end Go.Proofs.Ytjbppjemilijdaa

/- The contracts of the document's own answers on digits (the reference's digit, run), over the turned text. -/
namespace Go.Proofs.Ytjbppjemilijdaa
open Go.RowKit

/-- A byte of a text. -/
theorem str_at (zs : List Int) (hz : ∀ i, 0 ≤ zs.getD i 0 ∧ zs.getD i 0 ≤ 255) (k : Nat) (h : k < (strOfNums zs).size) : (((strOfNums zs)[k]'h).toNat : Int) = zs.getD k 0 := by
  have hk : k < zs.length := by rw [strOfNums_size] at h; exact h
  have := hz k
  show ((((zs.map fun n => UInt8.ofNat n.toNat).toArray)[k]'(by simpa using hk)).toNat : Int) = _
  simp only [List.getElem_toArray, List.getElem_map]
  simp only [List.getD, List.getElem?_eq_getElem hk, Option.getD_some] at this ⊢
  simp
  omega

theorem qrn_stop (base : Int) (f : Nat) (zs : List Int) (k : Nat) (n : Int) (h : zs.length ≤ k ∨ f = 0 ∨ base ≤ dgt (zs.getD k 0)) : qrn base f (zs.drop k) n = (n, 0) := by
  cases f with
  | zero => rfl
  | succ f =>
    rcases Nat.lt_or_ge k zs.length with hk | hk
    · rw [List.drop_eq_getElem_cons hk, qrn, if_neg]
      have : zs[k] = zs.getD k 0 := by simp [List.getD, List.getElem?_eq_getElem hk]
      rw [this]
      omega
    · rw [List.drop_eq_nil_of_le hk]; rfl

theorem qrn_step (base : Int) (f : Nat) (zs : List Int) (k : Nat) (n : Int) (hk : k < zs.length) (h : dgt (zs.getD k 0) < base) :
    qrn base (f + 1) (zs.drop k) n = ((qrn base f (zs.drop (k + 1)) (n * base + dgt (zs.getD k 0))).1, (qrn base f (zs.drop (k + 1)) (n * base + dgt (zs.getD k 0))).2 + 1) := by
  have e : zs[k] = zs.getD k 0 := by simp [List.getD, List.getElem?_eq_getElem hk]
  rw [List.drop_eq_getElem_cons hk, qrn, e, if_pos h]

theorem dgt_1 {c : Int} (h : 48 ≤ c ∧ c ≤ 57) : dgt c = c - 48 := by unfold dgt; rw [if_pos h]

theorem dgt_2 {c : Int} (h : 97 ≤ c ∧ c ≤ 102) : dgt c = c - 87 := by unfold dgt; rw [if_neg (by omega), if_pos h]

theorem dgt_3 {c : Int} (h : 65 ≤ c ∧ c ≤ 70) : dgt c = c - 55 := by unfold dgt; rw [if_neg (by omega), if_neg (by omega), if_pos h]

theorem dgt_4 {c : Int} (h1 : ¬ (48 ≤ c ∧ c ≤ 57)) (h2 : ¬ (97 ≤ c ∧ c ≤ 102)) (h3 : ¬ (65 ≤ c ∧ c ≤ 70)) : dgt c = 99 := by unfold dgt; rw [if_neg h1, if_neg h2, if_neg h3]

end Go.Proofs.Ytjbppjemilijdaa

/- The contract of the document's own answer on what stands behind a backslash (the reference's escape), over the turned text. -/
namespace Go.Proofs.Ytjbppjemilijdaa
open Go.RowKit
set_option linter.unusedVariables false

theorem str_list (zs : List Int) : (strOfNums zs).toList = zs.map fun n => UInt8.ofNat n.toNat := by rw [ByteArray.toList_eq]; rfl

theorem str_ne (c : Int) (r : List Int) : ((strOfNums (c :: r)).toList == []) = false := by rw [str_list]; rfl

/-- A text's rest. -/
theorem str_cut (zs : List Int) (a b : Nat) : (strOfNums zs).extract a b = strOfNums ((zs.drop a).take (b - a)) := by
  unfold strOfNums
  rw [ByteArray.extract_mk, List.map_take, List.map_drop]

theorem str_tail (c : Int) (r : List Int) : (strOfNums (c :: r)).extract 1 (r.length + 1) = strOfNums r := by
  rw [str_cut]
  simp

theorem own_lit (w : World) (x : Int) : (w.alloc (.cells #[.int .u8 x] 5)).ownsRow w.heap.size 5 1 (.slice (some ⟨w.heap.size, 0, none⟩) 1 1) 1 [.int .u8 x] :=
  lit_row w 5 #[.int .u8 x] 1 rfl (by omega)

/-- What a way of escape ends in. -/
def EscEnd (w : World) (p : List Int × Nat) (e : Ending) (w' : World) : Prop :=
  ∃ v, e = .returned (.tuple #[v, .int .i64 (p.2 : Int)]) ∧ w'.ownsRow w.heap.size 5 1 v p.1.length (p.1.map (Value.int .u8)) ∧ Below w.heap.size w w'

end Go.Proofs.Ytjbppjemilijdaa

/- The contract of the document's own answer on the quoted text at a text's beginning (the reference's TakeText), over the turned text. -/
namespace Go.Proofs.Ytjbppjemilijdaa
open Go.RowKit
set_option linter.unusedVariables false
set_option linter.unusedSimpArgs false

theorem lit_bs1 (w : World) (c : Int) (h0 : 0 ≤ c) (h1 : c ≤ 255) : Bs (w.alloc (.cells #[.int .u8 c] 5)) (some ⟨w.heap.size, 0, none⟩) 1 1 [c] :=
  Bs.of_owns (zs := [c]) (own_lit w c) (by intro x hx; simp at hx; omega)

theorem qesc_out (s : List Int) : (qesc s).1.length ≤ (qesc s).2 := by
  cases s with
  | nil => simp [qesc]
  | cons c r =>
    have h5 := uput_len (qrn 16 4 r 0).1
    have h6 := uput_len (qrn 16 8 r 0).1
    suffices key : ∀ p, qesc (c :: r) = p → p.1.length ≤ p.2 from key _ rfl
    intro p
    rw [qesc]
    by_cases k0 : c = 97
    · rw [if_pos k0]; rintro rfl; simp
    rw [if_neg k0]
    by_cases k1 : c = 98
    · rw [if_pos k1]; rintro rfl; simp
    rw [if_neg k1]
    by_cases k2 : c = 102
    · rw [if_pos k2]; rintro rfl; simp
    rw [if_neg k2]
    by_cases k3 : c = 110
    · rw [if_pos k3]; rintro rfl; simp
    rw [if_neg k3]
    by_cases k4 : c = 114
    · rw [if_pos k4]; rintro rfl; simp
    rw [if_neg k4]
    by_cases k5 : c = 116
    · rw [if_pos k5]; rintro rfl; simp
    rw [if_neg k5]
    by_cases k6 : c = 118
    · rw [if_pos k6]; rintro rfl; simp
    rw [if_neg k6]
    by_cases k7 : c = 92 ∨ c = 39 ∨ c = 34 ∨ c = 63
    · rw [if_pos k7]; rintro rfl; simp
    rw [if_neg k7]
    by_cases m0 : c = 120 ∨ c = 88
    · rw [if_pos m0]
      by_cases j : 0 < (qrn 16 2 r 0).2
      · rw [if_pos j]; rintro rfl; simp only [List.length_cons, List.length_nil]; omega
      · rw [if_neg j]; rintro rfl; simp
    rw [if_neg m0]
    by_cases m1 : c = 117
    · rw [if_pos m1]
      by_cases j : (qrn 16 4 r 0).2 = 4 ∧ isCh (qrn 16 4 r 0).1 = true
      · rw [if_pos j]; rintro rfl; simp only [List.length_cons, List.length_nil]; omega
      · rw [if_neg j]; rintro rfl; simp
    rw [if_neg m1]
    by_cases m2 : c = 85
    · rw [if_pos m2]
      by_cases j : (qrn 16 8 r 0).2 = 8 ∧ isCh (qrn 16 8 r 0).1 = true
      · rw [if_pos j]; rintro rfl; simp only [List.length_cons, List.length_nil]; omega
      · rw [if_neg j]; rintro rfl; simp
    rw [if_neg m2]
    by_cases j : 0 < (qrn 8 3 (c :: r) 0).2 ∧ (qrn 8 3 (c :: r) 0).1 < 256
    · rw [if_pos j]; rintro rfl; simp only [List.length_cons, List.length_nil]; omega
    · rw [if_neg j]; rintro rfl; simp

theorem qtk_bd (q : Int) : ∀ (f : Nat) (s : List Int) (i : Int) (o : List Int), (∀ c ∈ s, 0 ≤ c ∧ c ≤ 255) → (∀ c ∈ o, 0 ≤ c ∧ c ≤ 255) → ∀ c ∈ (qtk q f s i o).1, 0 ≤ c ∧ c ≤ 255
  | 0, s, i, o, _, _ => by simp [qtk]
  | f + 1, [], i, o, _, _ => by simp [qtk]
  | f + 1, c :: r, i, o, h, ho => by
    have hr : ∀ c ∈ r, 0 ≤ c ∧ c ≤ 255 := fun x hx => h x (by simp [hx])
    rw [qtk]
    by_cases k1 : c = q
    · rw [if_pos k1]; exact ho
    rw [if_neg k1]
    by_cases k2 : c = 0 ∨ c = 10
    · rw [if_pos k2]; simp
    rw [if_neg k2]
    by_cases k3 : c = 92
    · rw [if_pos k3]
      by_cases k4 : (qesc r).2 = 0
      · rw [if_pos k4]; simp
      · rw [if_neg k4]
        exact qtk_bd q f _ _ _ (fun x hx => hr x (List.mem_of_mem_drop hx)) (fun x hx => (List.mem_append.1 hx).elim (ho x) (qesc_bd r hr x))
    · rw [if_neg k3]
      exact qtk_bd q f _ _ _ hr (fun x hx => (List.mem_append.1 hx).elim (ho x) (fun hx => by simp at hx; subst hx; exact h x (by simp)))

theorem qtake_bd (s : List Int) (h : ∀ c ∈ s, 0 ≤ c ∧ c ≤ 255) : ∀ c ∈ (qtake s).1, 0 ≤ c ∧ c ≤ 255 := by
  cases s with
  | nil => simp [qtake]
  | cons c r =>
    rw [qtake]
    by_cases k : c = 34 ∨ c = 39
    · rw [if_pos k]; exact qtk_bd c _ r 1 [] (fun x hx => h x (by simp [hx])) (by simp)
    · rw [if_neg k]; simp

/-- Every text is some numbers'. -/
theorem str_nums (s : ByteArray) : ∃ z : List Int, s = strOfNums z ∧ ∀ i, 0 ≤ z.getD i 0 ∧ z.getD i 0 ≤ 255 := by
  refine ⟨s.data.toList.map fun x => (x.toNat : Int), ?_, getD_bd ?_⟩
  · apply ByteArray.ext
    apply Array.ext'
    rw [strOfNums_data, List.map_map]
    conv => lhs; rw [← List.map_id s.data.toList]
    apply List.map_congr_left
    intro x _
    simp
  · intro c hc
    obtain ⟨x, _, rfl⟩ := List.mem_map.1 hc
    have := x.toNat_lt
    omega

theorem drop_at {l : List Int} {k : Nat} (h : k < l.length) : l.drop k = l.getD k 0 :: l.drop (k + 1) := by
  rw [List.drop_eq_getElem_cons h]
  simp [List.getD, List.getElem?_eq_getElem h]

end Go.Proofs.Ytjbppjemilijdaa

/- The contracts of the reference's own small functions of layer 5: which signs are blanks, letters, digits, signs; where a line begins; comments of their own; places within comments. -/
namespace Go.Proofs.Ytjbppjemilijdaa
open Go.RowKit
set_option linter.unusedVariables false
set_option linter.unusedSimpArgs false

theorem lblank_t {c : Int} (h : c = 32 ∨ (9 ≤ c ∧ c ≤ 13)) : lblank c = true := decide_eq_true h

theorem lblank_f {c : Int} (h : ¬ (c = 32 ∨ (9 ≤ c ∧ c ≤ 13))) : lblank c = false := decide_eq_false h

end Go.Proofs.Ytjbppjemilijdaa

/- The contracts of the reference's own comments of a line, places within comments, comments of a token. -/
namespace Go.Proofs.Ytjbppjemilijdaa
open Go.RowKit
set_option linter.unusedVariables false
set_option linter.unusedSimpArgs false

/-- A piece of a text of two signs is these. -/
theorem str_two (s : List Int) (hz : ∀ i, 0 ≤ s.getD i 0 ∧ s.getD i 0 ≤ 255) (i : Nat) (h : i + 1 < s.length) (a b : Int) (ha : 0 ≤ a ∧ a ≤ 255) (hb : 0 ≤ b ∧ b ≤ 255) :
    (((strOfNums s).extract i (i + 2)).toList == [UInt8.ofNat a.toNat, UInt8.ofNat b.toNat]) = decide (s.getD i 0 = a ∧ s.getD (i + 1) 0 = b) := by
  rw [str_cut, str_list, show i + 2 - i = 2 by omega, drop_at (show i < s.length by omega), drop_at h]
  have h1 := hz i
  have h2 := hz (i + 1)
  generalize s.getD i 0 = x at h1
  generalize s.getD (i + 1) 0 = y at h2
  rw [Bool.eq_iff_iff]
  simp only [List.take, List.map_cons, List.map_nil, beq_iff_eq, List.cons.injEq, and_true, decide_eq_true_eq]
  exact ⟨fun h => ⟨u8_inj h1 ha h.1, u8_inj h2 hb h.2⟩, fun h => by rw [h.1, h.2]; exact ⟨rfl, rfl⟩⟩

/-- A piece of a text, its bounds as the walk spells them. -/
theorem run_cut (S : ByteArray) (i j : Nat) (ii jj : Int) (hi : ii = (i : Int)) (hj : jj = (j : Int)) (h1 : i ≤ j) (h2 : j ≤ S.size) :
    ∀ W, (Instr.slice 9 (.string S) (some (.int .i64 ii)) (some (.int .i64 jj)) none).run Try.prog W = .ok (.string (S.extract i j)) W := fun W => by
  subst hi hj
  rw [run_slice_string W 9 S .i64 .i64 (i : Int) (j : Int) Try.underlying9 (by omega) (by omega) (by omega)]
  simp

theorem run_cut_to (S : ByteArray) (i : Nat) (ii : Int) (hi : ii = (i : Int)) (h1 : i ≤ S.size) :
    ∀ W, (Instr.slice 9 (.string S) (some (.int .i64 ii)) none none).run Try.prog W = .ok (.string (S.extract i S.size)) W := fun W => by
  subst hi
  rw [run_slice_string_l W 9 S Try.underlying9 .i64 (i : Int) (by omega) (by omega)]
  simp

/-- A slice of numbers (int) that is read. -/
def Is (w : World) (a : Option Addr) (len cap : Nat) (ms : List Nat) : Prop :=
  ms.length = len ∧ len ≤ cap ∧ (a = none → cap = 0) ∧ (0 < len → ∃ b off, a = some ⟨b, off, none⟩ ∧ b < w.heap.size ∧ ∀ i, i < len → w.cell? ⟨b, off + i, none⟩ = some (.int .i64 ((ms.getD i 0 : Nat) : Int)))

theorem Is.below {w w' : World} {a : Option Addr} {len cap : Nat} {ms : List Nat} (h : Is w a len cap ms) {B : Nat} (hb : Below B w w') (hB : w.heap.size ≤ B) : Is w' a len cap ms := by
  obtain ⟨h1, h2, h3, h4⟩ := h
  refine ⟨h1, h2, h3, fun hp => ?_⟩
  obtain ⟨b, off, rfl, hlt, hc⟩ := h4 hp
  exact ⟨b, off, rfl, Nat.lt_of_lt_of_le hlt hb.size, fun i hi => (hb.cell (show b < B by omega)).trans (hc i hi)⟩

theorem Is.of_owns {w : World} {base n : Nat} {a : Option Addr} {len cap : Nat} {ms : List Nat} (h : w.ownsRow base 3 1 (.slice a len cap) n (ms.map fun m => Value.int .i64 ((m : Nat) : Int))) : Is w a len cap ms := by
  have hz := h.1
  simp at hz
  rcases h.2 with ⟨he, hn⟩ | ⟨g, c, cur, he, hg, hh, h1, h2, h3, h4⟩
  · simp at he
    obtain ⟨rfl, rfl, rfl⟩ := he
    have : ms = [] := List.eq_nil_of_length_eq_zero (by omega)
    subst this
    exact ⟨rfl, Nat.le_refl _, fun _ => rfl, fun h => absurd h (by omega)⟩
  · simp at he
    obtain ⟨rfl, rfl, rfl⟩ := he
    refine ⟨hz, h1, fun h => by simp at h, fun hp => ⟨g, 0, rfl, (h.lt g rfl).2, fun i hi => ?_⟩⟩
    have := h.cellAt i (by omega)
    rw [Nat.zero_add, this]
    simp [List.getElem?_eq_getElem (show i < ms.length by omega), List.getD]

theorem linside_short (l : List Nat) (k : Nat) (h : l.length ≤ 1) : linside l k = false := by
  match l, h with
  | [], _ => rfl
  | [a], _ => rfl
  | a :: b :: r, h => simp at h

theorem drop_atN {l : List Nat} {k : Nat} (h : k < l.length) : l.drop k = l.getD k 0 :: l.drop (k + 1) := by
  rw [List.drop_eq_getElem_cons h]
  simp [List.getD, List.getElem?_eq_getElem h]

end Go.Proofs.Ytjbppjemilijdaa

/- The contracts of the document's own answers on numbers (the reference's Number, Digits), over the turned text. -/
namespace Go.Proofs.Ytjbppjemilijdaa
open Go.RowKit
set_option linter.unusedVariables false

theorem enc_1 (c : Int) (h0 : 0 ≤ c) (h1 : c < 128) : Utf8.encode c = strOfNums [c] := by
  have hv : Utf8.valid c = true := by unfold Utf8.valid; simp; omega
  unfold Utf8.encode
  rw [hv]
  simp only [if_true]
  rw [if_pos (by omega)]
  rfl

theorem str_app (a b : List Int) : strOfNums a ++ strOfNums b = strOfNums (a ++ b) := by
  unfold strOfNums
  rw [ByteArray.mk_append_mk, List.map_append]

theorem run_add (w : World) (a b : List Int) (h : a.length + b.length ≤ 9223372036854775807) : (Op.stringOp .add (strOfNums a) (strOfNums b)).run Try.prog w = .ok (.string (strOfNums (a ++ b))) w := by
  rw [run_string_add_sum w _ _ (by rw [strOfNums_size, strOfNums_size]; exact h), str_app]

end Go.Proofs.Ytjbppjemilijdaa

/- The contracts of the reference's own Ident, Join, Parent, camel, Json, Entry. -/
namespace Go.Proofs.Ytjbppjemilijdaa
open Go.RowKit
set_option linter.unusedVariables false
set_option linter.unusedSimpArgs false

theorem nident_big (s : List Int) (h : 200 < s.length ∨ s.length = 0) : nident s = false := by
  unfold nident
  rw [decide_eq_false (by omega)]
  simp

theorem nident_bad (s : List Int) (k : Nat) (hk : k < s.length) (h : lletter (s.getD k 0) = false) : nident s = false := by
  unfold nident
  have : s.all lletter = false := by
    rw [List.all_eq_false]
    refine ⟨s[k], List.getElem_mem hk, ?_⟩
    rw [show s.getD k 0 = s[k] by simp [List.getD, hk]] at h
    rw [h]; decide
  rw [this]; rfl

theorem nident_good (s : List Int) (h : ∀ k, k < s.length → lletter (s.getD k 0) = true) (h1 : 1 ≤ s.length) (h2 : s.length ≤ 200) : nident s = !lnumb (s.getD 0 0) := by
  unfold nident
  have : s.all lletter = true := by
    rw [List.all_eq_true]
    intro c hc
    obtain ⟨k, hk, rfl⟩ := List.getElem_of_mem hc
    have := h k hk
    rwa [show s.getD k 0 = s[k] by simp [List.getD, hk]] at this
  rw [this, decide_eq_true ⟨h1, h2⟩]; rfl

end Go.Proofs.Ytjbppjemilijdaa

/- The contract of the reference's own Parent. -/
namespace Go.Proofs.Ytjbppjemilijdaa
open Go.RowKit
set_option linter.unusedVariables false
set_option linter.unusedSimpArgs false

/-- 's[:k]' of a text. -/
theorem run_head (s : List Int) (k : Nat) (hk : k ≤ s.length) (hl : (s.length : Int) ≤ 9223372036854775807) : ∀ W, (Instr.slice 9 (.string (strOfNums s)) none (some (.int .i64 (k : Int))) none).run Try.prog W = .ok (.string (strOfNums (s.take k))) W := fun W => by
  have hsz := strOfNums_size s
  rw [run_slice_string_h (P := Try.prog) W 9 (strOfNums s) Try.underlying9 .i64 (k : Int) (by omega) (by omega)]
  rw [Int.toNat_natCast, str_cut]
  simp

/-- 's[k:]' of a text. -/
theorem run_tail (s : List Int) (k : Nat) (hk : k ≤ s.length) (ii : Int) (hi : ii = (k : Int)) : ∀ W, (Instr.slice 9 (.string (strOfNums s)) (some (.int .i64 ii)) none none).run Try.prog W = .ok (.string (strOfNums (s.drop k))) W := fun W => by
  rw [run_cut_to (strOfNums s) k ii hi (by rw [strOfNums_size]; exact hk) W, str_cut, strOfNums_size, List.take_of_length_le (by simp)]

end Go.Proofs.Ytjbppjemilijdaa

/- Lists of texts in memory: what a slice of texts holds; one text more; whether a text is among them (the reference's In), which lists are alike (the reference's Same), a name that is not taken (the reference's Synthetic). -/
namespace Go.Proofs.Ytjbppjemilijdaa
open Go.RowKit
set_option linter.unusedVariables false
set_option linter.unusedSimpArgs false

def scell (z : List Int) : Value := .string (strOfNums z)

def byts (z : List Int) : Prop := ∀ c ∈ z, 0 ≤ c ∧ c ≤ 255

/-- The slice at a, of len texts, holds zs in the world w. -/
def Ss (w : World) (a : Option Addr) (len cap : Nat) (zs : List (List Int)) : Prop :=
  zs.length = len ∧ (len : Int) ≤ 9223372036854775807 ∧ len ≤ cap ∧ (a = none → cap = 0) ∧ (∀ z ∈ zs, byts z) ∧
    (0 < len → ∃ b off, a = some ⟨b, off, none⟩ ∧ b < w.heap.size ∧ ∀ i z, zs[i]? = some z → w.cell? ⟨b, off + i, none⟩ = some (scell z))

theorem Ss.below {w w' : World} {a : Option Addr} {len cap : Nat} {zs : List (List Int)} (h : Ss w a len cap zs) {B : Nat} (hb : Below B w w') (hB : w.heap.size ≤ B) : Ss w' a len cap zs := by
  obtain ⟨h1, h2, h3, h4, h5, h6⟩ := h
  refine ⟨h1, h2, h3, h4, h5, fun hp => ?_⟩
  obtain ⟨b, off, rfl, hlt, hc⟩ := h6 hp
  exact ⟨b, off, rfl, Nat.lt_of_lt_of_le hlt hb.size, fun i z hi => (hb.cell (show b < B by omega)).trans (hc i z hi)⟩

/-- The call's own list of texts. -/
def So (w : World) (base : Nat) (v : Value) (zs : List (List Int)) : Prop := w.ownsRow base 9 1 v zs.length (zs.map scell) ∧ ∀ z ∈ zs, byts z

theorem So.nil (w : World) (base : Nat) : So w base (.slice none 0 0) [] := ⟨World.ownsRow_nil _ _ _ _, by simp⟩

theorem So.below {w w' : World} {base : Nat} {v : Value} {zs : List (List Int)} (h : So w base v zs) (hb : Below w.heap.size w w') : So w' base v zs := ⟨own_below h.1 hb, h.2⟩

theorem So.base {w : World} {base base' : Nat} {v : Value} {zs : List (List Int)} (h : So w base v zs) (hb : base' ≤ base) : So w base' v zs := ⟨own_base h.1 hb, h.2⟩

theorem So.slice {w : World} {base : Nat} {v : Value} {zs : List (List Int)} (h : So w base v zs) : ∃ a c, v = .slice a zs.length c := own_slice h.1

theorem Ss.of_own {w : World} {base : Nat} {a : Option Addr} {len cap : Nat} {zs : List (List Int)} (h : So w base (.slice a len cap) zs) : Ss w a len cap zs := by
  obtain ⟨ho, hr⟩ := h
  rcases ho.2 with ⟨he, hn⟩ | ⟨g, c, cur, he, hg, hh, h1, h2, h3, h4⟩
  · simp at he
    obtain ⟨rfl, rfl, rfl⟩ := he
    exact ⟨hn, by omega, Nat.le_refl _, fun _ => rfl, hr, fun h => absurd h (by omega)⟩
  · simp at he
    obtain ⟨rfl, rfl, rfl⟩ := he
    refine ⟨rfl, by unfold maxLen at h2; omega, h1, fun h => by simp at h, hr, fun _ => ⟨g, 0, rfl, (ho.lt g rfl).2, fun i z hi => ?_⟩⟩
    have hil : i < zs.length := (List.getElem?_eq_some_iff.1 hi).1
    have := ho.cellAt i (by omega)
    rw [Nat.zero_add, this]
    simp [hi]

theorem Try.infoStr : (Try.prog.info? 9).map (fun i => (i.zero, i.size, i.bytes)) = some (some (.string { data := #[] }), 1, 16) := by kernel_rfl

theorem wpList_append_s {w : World} {ops : Array Oper} {rest : List Oper} {o : Oper} {f : Act} {Q : Exit → Act → World → Prop} (hgd : o.guard = none) (s x : Operand)
    (ho : o.op = .call { callee := .builtin .append, args := #[s, x], argTypes := #[27, 27] }) (base : Nat) (v : Value) (zs : List (List Int)) (z : List Int) (b cap : Nat)
    (hs : f.eval s = v) (hx : f.eval x = .slice (some ⟨b, 0, none⟩) 1 cap) (hown : So w base v zs) (hz : byts z) (hc : w.cell? ⟨b, 0, none⟩ = some (scell z)) (hn : zs.length + 1 ≤ 1000000) (hbase : base ≤ w.heap.size)
    (h : ∀ v' w', So w' base v' (zs ++ [z]) → w.grownBy w' v.ownBlock → wpList Try.prog ops Q rest (f.put o.dst v') w') : wpList Try.prog ops Q (o :: rest) f w := by
  refine wpList_plain hgd fun K hK => ?_
  obtain ⟨i0, hi, hz0, hz1, hz2⟩ := info_parts Try.infoStr
  obtain ⟨v', w', hrun, h1, h2, _⟩ := run_append_own (P := Try.prog) w base 27 o.type 9 i0 _ 1 16 Try.underlying27 hi hz0 hz1 hz2 rfl (by decide) v zs.length _ hown.1 ⟨b, 0, none⟩ 1 cap [scell z] rfl
    (fun j u hj => by
      match j, hj with
      | 0, hj => simp at hj; subst hj; simpa [Addr.add] using hc)
    (fun u hu => by simp at hu; subst hu; rfl) (by unfold maxLen; omega) (by omega) hbase
  unfold Oper.wp
  simp [execOp, ho, resolve, invoke, builtin, hs, hx, hrun, Result.andThen]
  refine hK _ _ (h v' w' ⟨by simpa using h1, fun u hu => ?_⟩ h2)
  rcases List.mem_append.1 hu with hu | hu
  · exact hown.2 u hu
  · simp at hu; subst hu; exact hz

theorem So.grown {w w0 w' : World} {base : Nat} {v : Value} {zs : List (List Int)} (h : So w base v zs) (hB : Below base w0 w) (hb : base ≤ w.heap.size) (hg : w.grownBy w' v.ownBlock) : Below base w0 w' :=
  hB.grown hg hb (fun k hk => (h.1.lt k hk).1)

theorem str_cell (W : World) (s : ByteArray) : (W.alloc (.cells #[.string s] 9)).cell? ⟨W.heap.size, 0, none⟩ = some (.string s) := by
  rw [World.cell?_alloc_new]; rfl

open Go.ChangeShapes Go.WideShapes Go.ChangeAt
theorem ss_open {H : Type} {enc : TypeId × Value → H} {W : World} {a : Option Addr} {len cap : Nat} {d : DataW H} {ps : List MemPlace}
    (h : DataW.Trod enc Try.prog W 0 (fun _ => true) true 27 (.slice a len cap) d ps) : ∃ zs, Ss W a len cap zs := by
  obtain ⟨fuel, hf⟩ := h
  have hf' : DataW.trod enc Try.prog W 0 (fun _ => true) true fuel 27 [.slice a len cap] = some (d, ps) := by simpa [Value.cells] using hf
  rcases open_strings Try.underlying27 Try.underlying9 (by kernel_rfl) hf' with ⟨hcs, _⟩ | ⟨x, l, c, ss, hcs, _, hl, hm, hz, _, hcell, hws⟩
  · simp at hcs
    obtain ⟨rfl, rfl, rfl⟩ := hcs
    exact ⟨[], rfl, by omega, Nat.le_refl _, fun _ => rfl, by simp, fun h => absurd h (by omega)⟩
  · simp at hcs
    obtain ⟨rfl, rfl, rfl⟩ := hcs
    simp only [if_true] at hz
    have hex : ∀ s : ByteArray, ∃ z : List Int, s = strOfNums z ∧ byts z := fun s => by
      obtain ⟨z, h1, h2⟩ := str_nums s
      exact ⟨z, h1, mem_bd h2⟩
    refine ⟨(ss.take len).map (fun s => (hex s).choose), by simp; omega, by unfold maxLen at hm; omega, hl, fun h => by simp at h, ?_, ?_⟩
    · intro z hz
      obtain ⟨s, _, rfl⟩ := List.mem_map.1 hz
      exact (hex s).choose_spec.2
    · intro hp
      obtain ⟨b, off, spot⟩ := x
      have hc0 := hcell 0 (by omega)
      have hspot : spot = none := by simpa [Addr.add] using World.cell?_spot hc0
      subst hspot
      refine ⟨b, off, rfl, ?_, ?_⟩
      · rcases Nat.lt_or_ge b W.heap.size with h | h
        · exact h
        · simp [World.cell?, Addr.add, Array.getElem?_eq_none h] at hc0
      · intro i z hi
        rw [List.getElem?_map] at hi
        cases hs : (ss.take len)[i]? with
        | none => rw [hs] at hi; simp at hi
        | some s =>
          rw [hs] at hi
          simp at hi
          subst hi
          have hil : i < len := by
            have := (List.getElem?_eq_some_iff.1 hs).1
            simp at this
            omega
          have := hcell i (by omega)
          have hp : (⟨b, off, none⟩ : Addr).add i = ⟨b, off + i, none⟩ := by unfold Addr.add; split <;> simp_all
          rw [hp] at this
          rw [this]
          rw [List.getElem?_take, if_pos hil] at hs
          simp only [List.getD, hs, Option.getD_some, scell]
          rw [← (hex s).choose_spec.1]

end Go.Proofs.Ytjbppjemilijdaa

/- The contracts of the reference's own Parts, Full. -/
namespace Go.Proofs.Ytjbppjemilijdaa
open Go.RowKit
set_option linter.unusedVariables false
set_option linter.unusedSimpArgs false

theorem lpc_more (s : List Int) (f i : Nat) (h : f ≤ i) (hi : i < s.length) : lpc s f (i + 1) = lpc s f i ++ [s.getD i 0] := by
  unfold lpc
  rw [List.take_add_one, List.getElem?_eq_getElem hi, List.drop_append_of_le_length (by simp; omega)]
  simp [List.getD, hi]

theorem lpc_none (s : List Int) (i : Nat) : lpc s i i = [] := by unfold lpc; simp

theorem lpc_bd (s : List Int) (i k : Nat) (h : byts s) : byts (lpc s i k) := fun c hc => h c (List.mem_of_mem_take (List.mem_of_mem_drop hc))

theorem run_piece (s : List Int) (i k : Nat) (h1 : i ≤ k) (h2 : k ≤ s.length) : ∀ W, (Instr.slice 9 (.string (strOfNums s)) (some (.int .i64 (i : Int))) (some (.int .i64 (k : Int))) none).run Try.prog W = .ok (.string (strOfNums (lpc s i k))) W := fun W => by
  rw [run_cut (strOfNums s) i k _ _ rfl rfl h1 (by rw [strOfNums_size]; exact h2) W, str_cut]
  unfold lpc
  rw [List.drop_take]

theorem nsp_len : ∀ (s cur : List Int), (nsp cur s).length ≤ s.length + 1
  | [], cur => by simp [nsp]
  | c :: r, cur => by
    rw [nsp]
    split
    · have := nsp_len r []; simp only [List.length_cons]; omega
    · have := nsp_len r (cur ++ [c]); simp only [List.length_cons]; omega

theorem nsp_each : ∀ (s cur z : List Int), z ∈ nsp cur s → z.length ≤ cur.length + s.length
  | [], cur, z, h => by
    simp only [nsp, List.mem_cons, List.not_mem_nil, or_false] at h
    subst h; simp
  | c :: r, cur, z, h => by
    rw [nsp] at h
    by_cases k : c = 46
    · rw [if_pos k] at h
      rcases List.mem_cons.1 h with h | h
      · subst h; omega
      · have := nsp_each r [] z h; simp only [List.length_nil, List.length_cons] at this ⊢; omega
    · rw [if_neg k] at h
      have := nsp_each r (cur ++ [c]) z h
      simp only [List.length_append, List.length_cons, List.length_nil] at this ⊢
      omega

end Go.Proofs.Ytjbppjemilijdaa

/- The contracts of the reference's own Word, Keyword. -/
namespace Go.Proofs.Ytjbppjemilijdaa
open Go.RowKit
set_option linter.unusedVariables false
set_option linter.unusedSimpArgs false

/-- The words of the plain types, each at its type's number. -/
def nwords : List (List Int) := [[], [100, 111, 117, 98, 108, 101], [102, 108, 111, 97, 116], [105, 110, 116, 54, 52], [117, 105, 110, 116, 54, 52], [105, 110, 116, 51, 50], [102, 105, 120, 101, 100, 54, 52], [102, 105, 120, 101, 100, 51, 50], [98, 111, 111, 108], [115, 116, 114, 105, 110, 103], [], [], [98, 121, 116, 101, 115], [117, 105, 110, 116, 51, 50], [], [115, 102, 105, 120, 101, 100, 51, 50], [115, 102, 105, 120, 101, 100, 54, 52], [115, 105, 110, 116, 51, 50], [115, 105, 110, 116, 54, 52]]

/-- The other words with a meaning. -/
def nkeys : List (List Int) := [[109, 101, 115, 115, 97, 103, 101], [101, 110, 117, 109], [101, 120, 116, 101, 110, 100], [101, 120, 116, 101, 110, 115, 105, 111, 110, 115], [111, 112, 116, 105, 111, 110], [111, 110, 101, 111, 102], [109, 97, 112], [114, 101, 115, 101, 114, 118, 101, 100], [111, 112, 116, 105, 111, 110, 97, 108], [114, 101, 113, 117, 105, 114, 101, 100], [114, 101, 112, 101, 97, 116, 101, 100], [114, 112, 99], [115, 101, 114, 118, 105, 99, 101], [105, 109, 112, 111, 114, 116], [112, 97, 99, 107, 97, 103, 101], [115, 121, 110, 116, 97, 120], [115, 116, 114, 101, 97, 109], [114, 101, 116, 117, 114, 110, 115], [116, 111], [109, 97, 120], [112, 117, 98, 108, 105, 99]]

def nwf (s : List Int) : List (List Int) → Nat → Nat
  | [], _ => 0
  | z :: r, k => if z ≠ [] ∧ z = s then k else nwf s r (k + 1)

/-- The type of a plain type's word; 0: none. -/
def nword (s : List Int) : Nat := nwf s nwords 0

def nkey (s : List Int) : Bool := decide (s ∈ nkeys) || decide (nword s ≠ 0)

theorem nwords_bd : ∀ z ∈ nwords, byts z := by unfold byts; decide

theorem nkeys_bd : ∀ z ∈ nkeys, byts z := by unfold byts; decide

theorem lit_cell (W : World) (C : Array Value) (zs : List (List Int)) (hC : C.toList = zs.map scell) (k : Nat) (z : List Int) (hz : zs[k]? = some z) : (W.alloc (.cells C 9)).cell? ⟨W.heap.size, k, none⟩ = some (.string (strOfNums z)) := by
  rw [World.cell?_alloc_new, ← Array.getElem?_toList, hC, List.getElem?_map, hz]
  rfl

end Go.Proofs.Ytjbppjemilijdaa

/- The contracts of the reference's own Same, Synthetic. -/
namespace Go.Proofs.Ytjbppjemilijdaa
open Go.RowKit
set_option linter.unusedVariables false
set_option linter.unusedSimpArgs false

theorem nsyn_len (t : List (List Int)) : ∀ (f : Nat) (s : List Int), (nsyn t f s).length ≤ s.length + f
  | 0, s => by simp [nsyn]
  | f + 1, s => by
    rw [nsyn]
    split
    · have := nsyn_len t f (88 :: s); simp only [List.length_cons] at this; omega
    · have := nsyn_len t f s; omega

theorem nsyn_bd (t : List (List Int)) : ∀ (f : Nat) (s : List Int), byts s → byts (nsyn t f s)
  | 0, s, h => h
  | f + 1, s, h => by
    rw [nsyn]
    refine nsyn_bd t f _ ?_
    split
    · intro c hc
      rcases List.mem_cons.1 hc with rfl | hc
      · omega
      · exact h c hc
    · exact h

end Go.Proofs.Ytjbppjemilijdaa

/- The contract of the reference's own Places. -/
namespace Go.Proofs.Ytjbppjemilijdaa
open Go.RowKit
set_option linter.unusedVariables false
set_option linter.unusedSimpArgs false

def txtLen : Value → Nat
  | .string s => s.size
  | _ => 0

theorem njoin_len (a b : List Int) : (njoin a b).length ≤ a.length + b.length + 1 := by
  unfold njoin
  split
  · omega
  · simp; omega

theorem njoin_bd (a b : List Int) (ha : byts a) (hb : byts b) : byts (njoin a b) := by
  unfold njoin
  split
  · exact hb
  · intro c hc
    simp only [List.mem_append, List.mem_cons, List.not_mem_nil, or_false] at hc
    rcases hc with (hc | rfl) | hc
    · exact ha c hc
    · omega
    · exact hb c hc

theorem nparent_bd (s : List Int) (h : byts s) : byts (nparent s).1 ∧ byts (nparent s).2 := by
  unfold nparent
  split
  · exact ⟨fun c hc => by simp at hc, h⟩
  · exact ⟨fun c hc => h c (List.mem_of_mem_take hc), fun c hc => h c (List.mem_of_mem_drop hc)⟩

theorem nplc_more (name scope : List Int) (h : scope ≠ []) : nplc name scope.length scope = njoin scope name :: nplc name (nparent scope).1.length (nparent scope).1 := by
  have hl := nparent_lt scope h
  obtain ⟨m, hm⟩ : ∃ m, scope.length = m + 1 := ⟨scope.length - 1, by omega⟩
  rw [hm, nplc, if_neg h, nplc_fuel name m (nparent scope).1.length _ (by omega) (Nat.le_refl _)]

end Go.Proofs.Ytjbppjemilijdaa

/- The program's own layer 6: which signs a text has when it is ranged over; small, letter, digit, run, Ident. -/
namespace Go.Proofs.Ytjbppjemilijdaa
open Go.RowKit
set_option linter.unusedVariables false
set_option linter.unusedSimpArgs false

def NTab (_ : World) : Prop := True

theorem NTab.below {w w' : World} (h : NTab w) {B : Nat} (hb : Below B w w') (hB : w.heap.size ≤ B) : NTab w' := trivial

/-- A sign beyond the plain ones takes up bytes that are all beyond 127. -/
theorem dec_wide (S : ByteArray) (p : Nat) (h : p < S.size) (ha : 128 ≤ (S.get! (p + 0)).toNat) : p + (Utf8.decode S p).2 ≤ S.size ∧ ∀ j, j < (Utf8.decode S p).2 → 128 ≤ (S.get! (p + j)).toNat := by
  have one : ∀ j, j < 1 → 128 ≤ (S.get! (p + j)).toNat := fun j hj => by rw [show j = 0 by omega]; exact ha
  have hn : ¬ (S.get! (p + 0)).toNat < 128 := by omega
  simp only [Utf8.decode, hn, if_false]
  split
  · rename_i h1
    simp only [Bool.and_eq_true, decide_eq_true_eq, beq_iff_eq] at h1
    split
    · refine ⟨by show p + 2 ≤ _; omega, fun j hj => ?_⟩
      have hj : j < 2 := hj
      rcases (show j = 0 ∨ j = 1 by omega) with rfl | rfl <;> omega
    · exact ⟨by show p + 1 ≤ _; omega, one⟩
  · split
    · rename_i h1
      simp only [Bool.and_eq_true, decide_eq_true_eq, beq_iff_eq] at h1
      split
      · refine ⟨by show p + 3 ≤ _; omega, fun j hj => ?_⟩
        have hj : j < 3 := hj
        rcases (show j = 0 ∨ j = 1 ∨ j = 2 by omega) with rfl | rfl | rfl <;> omega
      · exact ⟨by show p + 1 ≤ _; omega, one⟩
    · split
      · rename_i h1
        simp only [Bool.and_eq_true, decide_eq_true_eq, beq_iff_eq] at h1
        split
        · refine ⟨by show p + 4 ≤ _; omega, fun j hj => ?_⟩
          have hj : j < 4 := hj
          rcases (show j = 0 ∨ j = 1 ∨ j = 2 ∨ j = 3 by omega) with rfl | rfl | rfl | rfl <;> omega
        · exact ⟨by show p + 1 ≤ _; omega, one⟩
      · exact ⟨by show p + 1 ≤ _; omega, one⟩

/-- The sign at place k of a text, and how many bytes it takes. -/
theorem dec_at (s : List Int) (hz : ∀ i, 0 ≤ s.getD i 0 ∧ s.getD i 0 ≤ 255) (k : Nat) (hk : k < s.length) :
    (s.getD k 0 < 128 ∧ ((Utf8.decode (strOfNums s) k).1 : Int) = s.getD k 0 ∧ (Utf8.decode (strOfNums s) k).2 = 1) ∨
    (128 ≤ s.getD k 0 ∧ 128 ≤ ((Utf8.decode (strOfNums s) k).1 : Int) ∧ ((Utf8.decode (strOfNums s) k).1 : Int) ≤ 2147483647 ∧ 1 ≤ (Utf8.decode (strOfNums s) k).2 ∧ k + (Utf8.decode (strOfNums s) k).2 ≤ s.length ∧ ∀ j, k ≤ j → j < k + (Utf8.decode (strOfNums s) k).2 → 128 ≤ s.getD j 0) := by
  have hsz := strOfNums_size s
  have hk' : k < (strOfNums s).size := by rw [hsz]; exact hk
  have hat := str_at s hz k hk'
  by_cases ha : ((strOfNums s)[k]'hk').toNat < 128
  · left
    rw [decode_ascii _ k hk' ha]
    exact ⟨by omega, hat, rfl⟩
  · right
    obtain ⟨h1, h2⟩ := decode_high _ k hk' (by omega)
    have h3 := decode_le (strOfNums s) k
    obtain ⟨h4, h5⟩ := dec_wide _ k hk' (by rw [get_at _ k hk']; omega)
    rw [hsz] at h4
    refine ⟨by omega, by omega, by omega, h2, h4, fun j hj1 hj2 => ?_⟩
    have := h5 (j - k) (by omega)
    rw [show k + (j - k) = j by omega] at this
    have hj' : j < (strOfNums s).size := by omega
    have e := get_at (strOfNums s) j hj'
    rw [Nat.add_zero] at e
    rw [e] at this
    have := str_at s hz j hj'
    omega

def nlet (c : Int) : Bool := decide ((97 ≤ c ∧ c ≤ 122) ∨ (65 ≤ c ∧ c ≤ 90) ∨ c = 95)

def nok (s : List Int) (i : Nat) : Bool := nlet (s.getD i 0) || (lnumb (s.getD i 0) && decide (0 < i))

theorem nident_nok (s : List Int) (h1 : 1 ≤ s.length) (h2 : s.length ≤ 200) : nident s = decide (∀ i, i < s.length → nok s i = true) := by
  rw [Bool.eq_iff_iff, decide_eq_true_eq]
  unfold nident
  simp only [Bool.and_eq_true, List.all_eq_true, decide_eq_true_eq, Bool.not_eq_true']
  constructor
  · rintro ⟨⟨ha, _⟩, hb⟩ i hi
    have := ha (s.getD i 0) (by rw [show s.getD i 0 = s[i] by simp [List.getD, hi]]; exact List.getElem_mem hi)
    unfold lletter at this
    unfold nok nlet lnumb
    simp only [decide_eq_true_eq] at this
    simp only [Bool.or_eq_true, Bool.and_eq_true, decide_eq_true_eq]
    by_cases h0 : i = 0
    · subst h0
      unfold lnumb at hb
      rw [decide_eq_false_iff_not] at hb
      omega
    · omega
  · intro h
    refine ⟨⟨fun c hc => ?_, ⟨h1, h2⟩⟩, ?_⟩
    · obtain ⟨i, hi, rfl⟩ := List.getElem_of_mem hc
      have := h i hi
      rw [show s[i] = s.getD i 0 by simp [List.getD, hi]]
      unfold nok nlet lnumb at this
      unfold lletter
      simp only [Bool.or_eq_true, Bool.and_eq_true, decide_eq_true_eq] at this ⊢
      omega
    · have := h 0 (by omega)
      unfold nok nlet at this
      unfold lnumb at this ⊢
      rw [decide_eq_false_iff_not]
      simp only [Bool.or_eq_true, Bool.and_eq_true, decide_eq_true_eq] at this
      omega

def nsml (c : Int) : Bool := decide (97 ≤ c ∧ c ≤ 122)

end Go.Proofs.Ytjbppjemilijdaa

/- Contracts of Go's own library at this program, each one application of the guide's: strings_LastIndex_one, stringslite_Clone. -/
namespace Go.Proofs.Ytjbppjemilijdaa
open Go.Shelf

def Sh.laysM316_ren : Go.Shelf.Ren := ⟨fun | 316 => 28 | n => n, fun | 9 => 9 | 3 => 3 | 4 => 4 | 37 => 28 | 0 => 0 | 127 => 113 | 5 => 5 | n => n, fun | n => n⟩

theorem Sh.laysM316 : Go.Proofs.LaysM.n316 Try.prog Sh.laysM316_ren := {
  mixed := by kernel_rfl
  f316 := Try.func28.trans (congrArg some (by kernel_rfl))
  t0 := Try.underlying0
  a0 := Try.isAgg0
  z0 := Try.sizeOf0
  v0 := Try.zeroValue0
  t3 := Try.underlying3
  a3 := Try.isAgg3
  z3 := Try.sizeOf3
  v3 := Try.zeroValue3
  t4 := Try.underlying4
  a4 := Try.isAgg4
  z4 := Try.sizeOf4
  v4 := Try.zeroValue4
  t9 := Try.underlying9
  a9 := Try.isAgg9
  z9 := Try.sizeOf9
  v9 := Try.zeroValue9
  t37 := Try.underlying28
  a37 := Try.isAgg28
  z37 := Try.sizeOf28
  v37 := Try.zeroValue28
  t127 := Try.underlying113
  a127 := Try.isAgg113
  z127 := Try.sizeOf113
  v127 := Try.zeroValue113
  t5 := Try.underlying5
  a5 := Try.isAgg5
  z5 := Try.sizeOf5
  v5 := Try.zeroValue5
  i0 := by kernel_rfl
  i3 := by kernel_rfl
  i4 := by kernel_rfl
  i5 := by kernel_rfl
  i9 := by kernel_rfl
  i37 := by kernel_rfl
  i127 := by kernel_rfl }

open Go.RowKit in
theorem Sh.stringslite_Clone (s : ByteArray) (w : World) (hlim : s.size ≤ 281474976710656) :
    Calls Try.prog 28 #[.string s] w fun e w' => e = .returned (.string s) ∧ Below w.heap.size w w' := Any.stringslite_Clone Sh.laysM316 s w hlim

def Sh.lays148_ren : Go.Shelf.Ren := ⟨fun | 148 => 99 | 222 => 101 | 223 => 102 | 269 => 103 | n => n, fun | 9 => 9 | 3 => 3 | 4 => 4 | 5 => 5 | 146 => 179 | 51 => 155 | 46 => 110 | n => n, fun | n => n⟩

theorem Sh.lays148 : Go.Proofs.Lays.n148 Try.prog Sh.lays148_ren := {
  mixed := by kernel_rfl
  f148 := Try.func99.trans (congrArg some (by kernel_rfl))
  f222 := Try.func101.trans (congrArg some (by kernel_rfl))
  f223 := Try.func102.trans (congrArg some (by kernel_rfl))
  f269 := Try.func103.trans (congrArg some (by kernel_rfl))
  t3 := Try.underlying3
  a3 := Try.isAgg3
  z3 := Try.sizeOf3
  v3 := Try.zeroValue3
  t4 := Try.underlying4
  a4 := Try.isAgg4
  z4 := Try.sizeOf4
  v4 := Try.zeroValue4
  t5 := Try.underlying5
  a5 := Try.isAgg5
  z5 := Try.sizeOf5
  v5 := Try.zeroValue5
  t9 := Try.underlying9
  a9 := Try.isAgg9
  z9 := Try.sizeOf9
  v9 := Try.zeroValue9
  t46 := Try.underlying110
  a46 := Try.isAgg110
  z46 := Try.sizeOf110
  v46 := Try.zeroValue110
  t51 := Try.underlying155
  a51 := Try.isAgg155
  z51 := Try.sizeOf155
  v51 := Try.zeroValue155
  t146 := Try.underlying179
  a146 := Try.isAgg179
  z146 := Try.sizeOf179
  v146 := Try.zeroValue179 }

open Go.RowKit Go.Lib in
theorem Sh.strings_LastIndex_one (s sub : ByteArray) (h1 : sub.size = 1) (hs : s.size < 4611686018427387904) (w : World) :
    Calls Try.prog 99 #[.string s, .string sub] w fun e w' => e = .returned (.int .i64 (Lib.lastIndexByte s ((sub[0]'(by omega)).toNat : Int))) ∧ w' = w := Any.strings_LastIndex_one Sh.lays148 s sub h1 hs w

end Go.Proofs.Ytjbppjemilijdaa

/- The program's own Join, cut, Parent, Places. -/
namespace Go.Proofs.Ytjbppjemilijdaa
open Go.RowKit
set_option linter.unusedVariables false
set_option linter.unusedSimpArgs false

theorem nul_of (l : List Int) : (⟨(l.map fun n => UInt8.ofNat n.toNat).toArray⟩ : ByteArray) = strOfNums l := by
  apply ByteArray.ext
  apply Array.ext'
  rw [strOfNums_data]

set_option maxHeartbeats 400000 in
theorem pnclone_any (S : ByteArray) (w : World) (hlen : S.size ≤ 1000000) :
    Calls Try.prog 19 #[.string S] w fun e w' => e = .returned (.string S) ∧ Below w.heap.size w w' := by
  have Q : Hid _ := Sh.stringslite_Clone S w (by omega)
  go_enter Try.func19, Try.ntmps19
  go_wp2_with fail
  refine Calls.mono Q.out ?_
  rintro e w1 ⟨rfl, hb⟩
  go_wp2
  go_ret
  exact ⟨rfl, hb⟩

set_option maxHeartbeats 1000000 in
theorem pjoin_any (a b : List Int) (w : World) (hT : Hid (NTab w)) (ha : Hid (byts a)) (hb : Hid (byts b)) (hl : a.length ≤ 10000) (hl2 : b.length ≤ 10000) :
    Calls Try.prog 65 #[.string (strOfNums a), .string (strOfNums b)] w fun e w' => e = .returned (.string (strOfNums (njoin a b))) ∧ Below w.heap.size w w' := by
  unfold njoin
  by_cases h : a = []
  · rw [if_pos h]
    have hne : ((strOfNums a).toList == []) = true := by rw [h, str_list]; rfl
    have Q : Hid _ := fun W => pnclone_any (strOfNums b) W (by rw [strOfNums_size]; omega)
    generalize strOfNums a = A at hne
    generalize strOfNums b = B at Q
    go_enter Try.func65, Try.ntmps65
    go_wp2_with fail
    refine Calls.mono (Q.out _) ?_
    rintro e w1 ⟨rfl, hb1⟩
    go_wp2
    go_ret
    exact ⟨rfl, hb1⟩
  · rw [if_neg h]
    have hne : ((strOfNums a).toList == []) = false := by
      cases a with
      | nil => exact absurd rfl h
      | cons c r => exact str_ne c r
    have h1 : ∀ W, (Op.stringOp .add (strOfNums a) { data := #[46] }).run Try.prog W = .ok (.string (strOfNums (a ++ [46]))) W := fun W => run_add W a [46] (by simp; omega)
    have h2 : ∀ W, (Op.stringOp .add (strOfNums (a ++ [46])) (strOfNums b)).run Try.prog W = .ok (.string (strOfNums (a ++ [46] ++ b))) W := fun W => run_add W (a ++ [46]) b (by simp; omega)
    clear h
    generalize strOfNums (a ++ [46] ++ b) = R at h2
    generalize strOfNums (a ++ [46]) = AP at h1 h2
    generalize strOfNums a = A at hne h1
    generalize strOfNums b = B at h2
    go_enter Try.func65, Try.ntmps65
    go_wp2
    go_ret
    exact ⟨rfl, Below.refl _ _⟩

theorem str_bang (s : List Int) (hz : ∀ i, 0 ≤ s.getD i 0 ∧ s.getD i 0 ≤ 255) (j : Nat) (hj : j < s.length) : (((strOfNums s).data[j]!).toNat : Int) = s.getD j 0 := by
  have hj' : j < (strOfNums s).size := by rw [strOfNums_size]; exact hj
  have := str_at s hz j hj'
  rw [← this]
  have e := get_at (strOfNums s) j hj'
  rw [Nat.add_zero] at e
  rw [← e]
  rfl

theorem last_dot (s : List Int) (hz : ∀ i, 0 ≤ s.getD i 0 ∧ s.getD i 0 ≤ 255) : ∀ k, k ≤ s.length → Lib.lastIdx (strOfNums s) 46 k = (nlast s k : Int) - 1
  | 0, _ => rfl
  | k + 1, h => by
    rw [Lib.lastIdx, str_bang s hz k (by omega), nlast]
    by_cases e : s.getD k 0 = 46
    · rw [if_pos e, if_pos e]; omega
    · rw [if_neg e, if_neg e, last_dot s hz k (by omega)]

set_option maxHeartbeats 1000000 in
theorem pncut_any (s : List Int) (w : World) (hz : Hid (∀ i, 0 ≤ s.getD i 0 ∧ s.getD i 0 ≤ 255)) (hlen : (s.length : Int) ≤ 100000) :
    Calls Try.prog 93 #[.string (strOfNums s)] w fun e w' => e = .returned (.tuple #[.string (strOfNums (nparent s).1), .string (strOfNums (nparent s).2)]) ∧ Below w.heap.size w w' := by
  have hsz := strOfNums_size s
  have q := fun W => Sh.strings_LastIndex_one (strOfNums s) { data := #[46] } rfl (by omega) W
  have he : Lib.lastIndexByte (strOfNums s) (((({ data := #[46] } : ByteArray)[0]'(by decide)).toNat : Nat) : Int) = (nlast s s.length : Int) - 1 := by
    show Lib.lastIdx (strOfNums s) 46 (strOfNums s).size = _
    rw [hsz]
    exact last_dot s hz.out s.length (Nat.le_refl _)
  have q' : ∀ W, Calls Try.prog 99 #[.string (strOfNums s), .string { data := #[46] }] W fun e w' => e = .returned (.int .i64 ((nlast s s.length : Int) - 1)) ∧ w' = W := fun W => by rw [← he]; exact q W
  clear q he
  have hle := nlast_le s s.length
  by_cases h0 : nlast s s.length = 0
  · have E : Hid (nparent s = ([], s)) := by show _ = _; unfold nparent; rw [if_pos h0]
    rw [h0] at q'
    have Q : Hid (∀ W, Calls Try.prog 99 #[.string (strOfNums s), .string { data := #[46] }] W fun e w' => e = .returned (.int .i64 (-1)) ∧ w' = W) := q'
    have h1 := run_head s 0 (by omega) (by omega)
    have h2 := run_tail s 0 (by omega) 0 rfl
    rw [E.out]
    simp only [List.take_zero, List.drop_zero, Int.ofNat_zero] at h1 h2 ⊢
    have HE : Hid ((strOfNums s).extract 0 0 = strOfNums []) := by show _ = _; rw [str_cut]; simp
    obtain ⟨A, hA⟩ : ∃ A, A = strOfNums [] := ⟨_, rfl⟩
    rw [← hA] at h1 HE ⊢
    clear q' E hle h0 hA h1
    generalize strOfNums s = S at *
    go_enter Try.func93, Try.ntmps93
    go_wp2_with fail
    refine Calls.mono (Q.out _) ?_
    rintro e w1 ⟨rfl, rfl⟩
    go_wp2
    go_region
    go_wp2
    go_ret2
    refine ⟨?_, (Below.refl _ _).drew⟩
    show Ending.returned (Value.tuple #[.string (S.extract 0 0), .string S]) = _
    rw [HE.out]
  · obtain ⟨m, hm⟩ : ∃ m, nlast s s.length = m + 1 := ⟨nlast s s.length - 1, by omega⟩
    have E : Hid (nparent s = (s.take m, s.drop (m + 1))) := by show _ = _; unfold nparent; rw [if_neg h0, hm, Nat.add_sub_cancel]
    rw [hm, show (((m + 1 : Nat) : Int) - 1) = (m : Int) by omega] at q'
    have Q : Hid _ := q'
    have h1 := run_head s m (by omega) (by omega)
    have h2 := run_tail s (m + 1) (by omega) ((m : Int) + 1) (by omega)
    have hm1 : m + 1 ≤ s.length := by omega
    have hmx : ¬ (m : Int) < 0 := by omega
    have hmx2 : (0 : Int) ≤ (m : Int) := by omega
    rw [E.out]
    obtain ⟨A, hA⟩ : ∃ A, A = strOfNums (s.take m) := ⟨_, rfl⟩
    obtain ⟨B, hB⟩ : ∃ B, B = strOfNums (s.drop (m + 1)) := ⟨_, rfl⟩
    simp only []
    rw [← hA] at h1 ⊢
    rw [← hB] at h2 ⊢
    clear q' E hle h0 hA hB hm
    generalize strOfNums s = S at *
    go_enter Try.func93, Try.ntmps93
    go_wp2_with fail
    refine Calls.mono (Q.out _) ?_
    rintro e w1 ⟨rfl, rfl⟩
    go_wp2
    go_region
    go_wp2
    go_ret2
    exact ⟨rfl, (Below.refl _ _).drew⟩

set_option maxHeartbeats 1000000 in
theorem pparent_any (s : List Int) (w : World) (hT : Hid (NTab w)) (hz : Hid (∀ i, 0 ≤ s.getD i 0 ∧ s.getD i 0 ≤ 255)) (hlen : (s.length : Int) ≤ 100000) :
    Calls Try.prog 64 #[.string (strOfNums s)] w fun e w' => e = .returned (.tuple #[.string (strOfNums (nparent s).1), .string (strOfNums (nparent s).2)]) ∧ Below w.heap.size w w' := by
  have Q : Hid _ := pncut_any s w hz hlen
  have hl : (nparent s).1.length ≤ s.length ∧ (nparent s).2.length ≤ s.length := by unfold nparent; split <;> simp <;> omega
  have Q1 : Hid _ := fun W => pnclone_any (strOfNums (nparent s).1) W (by rw [strOfNums_size]; omega)
  have Q2 : Hid _ := fun W => pnclone_any (strOfNums (nparent s).2) W (by rw [strOfNums_size]; omega)
  clear hl
  generalize strOfNums (nparent s).1 = A at *
  generalize strOfNums (nparent s).2 = B at *
  go_enter Try.func64, Try.ntmps64
  go_wp2_with fail
  refine Calls.mono Q.out ?_
  rintro e w1 ⟨rfl, hb1⟩
  go_wp2_with fail
  refine Calls.mono (Q1.out _) ?_
  rintro e w2 ⟨rfl, hb2⟩
  go_wp2_with fail
  refine Calls.mono (Q2.out _) ?_
  rintro e w3 ⟨rfl, hb3⟩
  go_wp2
  go_ret2
  exact ⟨rfl, (hb1.trans (hb2.mono hb1.size)).trans (hb3.mono (Nat.le_trans hb1.size hb2.size))⟩

/-- What Go's own CutPrefix answers for a point ahead. -/
theorem pre_dot (s : List Int) (hs : byts s) : Lib.hasPrefix (strOfNums s).data.toList [46] = decide (s.getD 0 0 = 46) := by
  rw [strOfNums_data]
  unfold Lib.hasPrefix
  cases s with
  | nil => rfl
  | cons c r =>
    have hc := hs c (by simp)
    rw [Bool.eq_iff_iff, decide_eq_true_eq]
    simp only [List.map_cons, List.isPrefixOf, Bool.and_true, beq_iff_eq, List.getD_cons_zero]
    constructor
    · intro e
      exact u8_inj hc (by omega) (by rw [← e]; rfl)
    · rintro rfl; rfl

end Go.Proofs.Ytjbppjemilijdaa
