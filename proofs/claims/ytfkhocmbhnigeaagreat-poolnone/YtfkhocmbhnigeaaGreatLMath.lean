/- The tokens of a source as plain functions over lists of numbers. -/
import Derived.Test.YtfkhocmbhnigeaaGreatQMath
namespace Go.Proofs.YtfkhocmbhnigeaaGreat
set_option linter.unusedSimpArgs false

def lblank (c : Int) : Bool := decide (c = 32 ∨ (9 ≤ c ∧ c ≤ 13))

def lletter (c : Int) : Bool := decide ((97 ≤ c ∧ c ≤ 122) ∨ (65 ≤ c ∧ c ≤ 90) ∨ (48 ≤ c ∧ c ≤ 57) ∨ c = 95)

def lnumb (c : Int) : Bool := decide (48 ≤ c ∧ c ≤ 57)

def lsign (c : Int) : Bool := decide (c = 59 ∨ c = 44 ∨ c = 46 ∨ c = 61 ∨ c = 123 ∨ c = 125 ∨ c = 91 ∨ c = 93 ∨ c = 40 ∨ c = 41 ∨ c = 60 ∨ c = 62 ∨ c = 58 ∨ c = 45)

/-- Where the line of a place begins. -/
def lnAt (s : List Int) : Nat → Nat
  | 0 => 0
  | k + 1 => if s.getD k 0 = 10 then k + 1 else lnAt s k

theorem lnAt_le (s : List Int) : ∀ k, lnAt s k ≤ k
  | 0 => Nat.le_refl _
  | k + 1 => by
    unfold lnAt
    split
    · exact Nat.le_refl _
    · have := lnAt_le s k; omega

/-- As long as p holds from place i on, at most up to place 'to' (so many steps as f, at most). -/
def lrun (p : Int → Bool) (s : List Int) (to : Nat) : Nat → Nat → Nat
  | 0, i => i
  | f + 1, i => if i < to ∧ p (s.getD i 0) = true then lrun p s to f (i + 1) else i

theorem lrun_ge (p : Int → Bool) (s : List Int) (to : Nat) : ∀ f i, i ≤ lrun p s to f i
  | 0, i => Nat.le_refl _
  | f + 1, i => by
    unfold lrun
    split
    · have := lrun_ge p s to f (i + 1); omega
    · exact Nat.le_refl _

theorem lrun_le (p : Int → Bool) (s : List Int) (to : Nat) : ∀ f i, i ≤ to → lrun p s to f i ≤ to
  | 0, i, h => h
  | f + 1, i, h => by
    unfold lrun
    split
    · exact lrun_le p s to f (i + 1) (by omega)
    · exact h

theorem lrun_fuel (p : Int → Bool) (s : List Int) (to : Nat) : ∀ f g i, to ≤ i + f → to ≤ i + g → lrun p s to f i = lrun p s to g i
  | 0, 0, i, _, _ => rfl
  | 0, g + 1, i, h, _ => by unfold lrun; rw [if_neg (by omega)]
  | f + 1, 0, i, _, h => by unfold lrun; rw [if_neg (by omega)]
  | f + 1, g + 1, i, h1, h2 => by
    unfold lrun
    rw [lrun_fuel p s to f g (i + 1) (by omega) (by omega)]

/-- Up to a line's end, or the source's. -/
def leol (c : Int) : Bool := decide (c ≠ 10)

/-- The text of a line that is a comment and nothing else. -/
def lown (s : List Int) (frm to : Nat) : Option (List Int) :=
  let i := lrun lblank s to (to - frm) frm
  if i + 2 ≤ to ∧ s.getD i 0 = 47 ∧ s.getD (i + 1) 0 = 47 then some ((s.take to).drop (i + 2)) else none

def linside : List Nat → Nat → Bool
  | a :: b :: r, k => decide (a < k ∧ k < b) || linside r k
  | _, _ => false

/-- The comments right ahead of the line that begins at place frm. -/
def ldl (s : List Int) (marks : List Nat) : Nat → Nat → List Int → List Int
  | 0, _, out => out
  | f + 1, frm, out =>
    if frm = 0 then out else
    match lown s (lnAt s (frm - 1)) (frm - 1) with
    | none => out
    | some t => if linside marks (lnAt s (frm - 1)) || linside marks (frm - 1) then out else ldl s marks f (lnAt s (frm - 1)) (t ++ [10] ++ out)

def ldoc (s : List Int) (k : Nat) (marks : List Nat) : List Int :=
  if lrun lblank s k (k - lnAt s k) (lnAt s k) = k then ldl s marks (lnAt s k) (lnAt s k) [] else []

/-- A token. -/
structure Tk where
  kind : Int
  text : List Int
  n : Int
  pos : Nat
  doc : List Int
deriving DecidableEq

/-- Where a comment between signs ends: the place of its last '*', from place k on; the source's end: nowhere. -/
def lcl (s : List Int) : Nat → Nat → Nat
  | 0, k => k
  | f + 1, k => if k + 1 < s.length ∧ ¬ (s.getD k 0 = 42 ∧ s.getD (k + 1) 0 = 47) then lcl s f (k + 1) else k

theorem lcl_ge (s : List Int) : ∀ f k, k ≤ lcl s f k
  | 0, k => Nat.le_refl _
  | f + 1, k => by
    unfold lcl
    split
    · have := lcl_ge s f (k + 1); omega
    · exact Nat.le_refl _

def lpc (s : List Int) (i k : Nat) : List Int := (s.take k).drop i

/-- The token that begins at place i, and where it ends; or a place and an error. -/
def ltok (s : List Int) (i : Nat) (doc : List Int) : (Tk × Nat) ⊕ (Int × Int) :=
  if lletter (s.getD i 0) = true then
    let k := lrun lletter s s.length (s.length - (i + 1)) (i + 1)
    if lnumb (s.getD i 0) = true then
      (if (qnum (lpc s i k)).2 = true then .inl (⟨2, [], (qnum (lpc s i k)).1, i, doc⟩, k) else .inr ((i : Int), 52))
    else .inl (⟨1, lpc s i k, 0, i, doc⟩, k)
  else if s.getD i 0 = 34 ∨ s.getD i 0 = 39 then
    (if (qtake (s.drop i)).2.2 = 0 then .inl (⟨3, (qtake (s.drop i)).1, 0, i, doc⟩, i + (qtake (s.drop i)).2.1.toNat) else .inr ((i : Int) + (qtake (s.drop i)).2.1, (qtake (s.drop i)).2.2))
  else if lsign (s.getD i 0) = true then .inl (⟨4, lpc s i (i + 1), 0, i, doc⟩, i + 1)
  else .inr ((i : Int), 50)

/-- From place i on. -/
def lsc (s : List Int) : Nat → Nat → List Tk → List Nat → List Tk × Int × Int
  | 0, _, _, _ => ([], 0, 0)
  | f + 1, i0, out, marks =>
    let i := lrun lblank s s.length (s.length - i0) i0
    if i = s.length then (out ++ [⟨0, [], 0, i, ldoc s i marks⟩], 0, 0)
    else if i + 1 < s.length ∧ s.getD i 0 = 47 ∧ s.getD (i + 1) 0 = 47 then lsc s f (lrun leol s s.length (s.length - i) i) out marks
    else if i + 1 < s.length ∧ s.getD i 0 = 47 ∧ s.getD (i + 1) 0 = 42 then
      (let k := lcl s (s.length - (i + 2)) (i + 2)
       if k + 1 < s.length then lsc s f (k + 2) out (marks ++ [i, k + 1]) else ([], (i : Int), 51))
    else match ltok s i (ldoc s i marks) with
      | .inl (t, k) => lsc s f k (out ++ [t]) marks
      | .inr (k, e) => ([], k, e)

def lscan (s : List Int) : List Tk × Int × Int := if 100000 < s.length then ([], 0, 2) else lsc s (s.length + 1) 0 [] []

/-- Line and column. -/
def lline (s : List Int) : Nat → Int
  | 0 => 1
  | k + 1 => if s.getD k 0 = 10 then lline s k + 1 else lline s k

/-- A text as comments: what stands from a line's beginning on. -/
def ldcs : List Int → List Int → List Int
  | [], [] => []
  | l, [] => [47, 47] ++ l ++ [10]
  | l, c :: r => if c = 10 then [47, 47] ++ l ++ [10] ++ ldcs [] r else ldcs (l ++ [c]) r

def ldocs (t : List Int) : List Int := ldcs [] t

end Go.Proofs.YtfkhocmbhnigeaaGreat
