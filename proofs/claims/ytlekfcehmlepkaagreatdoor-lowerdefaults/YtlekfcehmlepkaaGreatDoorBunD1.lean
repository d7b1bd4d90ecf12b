/- Put together by a program out of these texts of mine: UMath, QMath, LMath, NMath, Bas, URef. -/
import Derived.WalkKit
import Derived.Test.YtlekfcehmlepkaaGreatDoorRows
import Derived.WalkMore
import Derived.ScopeJumps
import Derived.OpenShut
import Derived.ProofKit
import Derived.Laws.BytesArg

namespace Go.Proofs.YtlekfcehmlepkaaGreatDoor

def isCh (n : Int) : Bool := decide (0 ≤ n) && decide (n ≤ 1114111) && (decide (n < 55296) || decide (57343 < n))

theorem isCh_iff (n : Int) : isCh n = true ↔ 0 ≤ n ∧ n ≤ 1114111 ∧ (n < 55296 ∨ 57343 < n) := by
 simp [isCh,and_assoc]

def uput (n : Int) : List Int :=
 if isCh n = true then
  if n < 128 then [n]
  else if n < 2048 then [192 + n / 64,128 + n % 64]
  else if n < 65536 then [224 + n / 4096,128 + n / 64 % 64,128 + n % 64]
  else [240 + n / 262144,128 + n / 4096 % 64,128 + n / 64 % 64,128 + n % 64]
 else []

theorem uput_no {n : Int} (h : isCh n = false) : uput n = [] := by simp [uput,h]

theorem uput_1 {n : Int} (h0 : 0 ≤ n) (h1 : n < 128) : uput n = [n] := by
 rw [uput,if_pos ((isCh_iff n).2 ⟨h0,by omega,by omega⟩),if_pos h1]

theorem uput_2 {n : Int} (h0 : 128 ≤ n) (h1 : n < 2048) : uput n = [192 + n / 64,128 + n % 64] := by
 rw [uput,if_pos ((isCh_iff n).2 ⟨by omega,by omega,by omega⟩),if_neg (by omega),if_pos h1]

theorem uput_3 {n : Int} (h0 : 2048 ≤ n) (h1 : n < 65536) (hs : n < 55296 ∨ 57343 < n) : uput n = [224 + n / 4096,128 + n / 64 % 64,128 + n % 64] := by
 rw [uput,if_pos ((isCh_iff n).2 ⟨by omega,by omega,hs⟩),if_neg (by omega),if_neg (by omega),if_pos h1]

theorem uput_4 {n : Int} (h0 : 65536 ≤ n) (h1 : n ≤ 1114111) : uput n = [240 + n / 262144,128 + n / 4096 % 64,128 + n / 64 % 64,128 + n % 64] := by
 rw [uput,if_pos ((isCh_iff n).2 ⟨by omega,by omega,by omega⟩),if_neg (by omega),if_neg (by omega),if_neg (by omega)]

theorem isCh_ways {n : Int} (h : isCh n = true) : (0 ≤ n ∧ n < 128) ∨ (128 ≤ n ∧ n < 2048) ∨ (2048 ≤ n ∧ n < 65536 ∧ (n < 55296 ∨ 57343 < n)) ∨ (65536 ≤ n ∧ n ≤ 1114111) := by
 have := (isCh_iff n).1 h
 omega

theorem uput_bd (n : Int) : ∀ c ∈ uput n,0 ≤ c ∧ c ≤ 255 := by
 cases h : isCh n with
 | false => simp [uput_no h]
 | true =>
  rcases isCh_ways h with ⟨h0,h1⟩ | ⟨h0,h1⟩ | ⟨h0,h1,hs⟩ | ⟨h0,h1⟩
  ·rw [uput_1 h0 h1]; simp; omega
  ·rw [uput_2 h0 h1]; simp; omega
  ·rw [uput_3 h0 h1 hs]; simp; omega
  ·rw [uput_4 h0 h1]; simp; omega

theorem uput_len (n : Int) : (uput n).length ≤ 4 := by
 cases h : isCh n with
 | false => simp [uput_no h]
 | true =>
  rcases isCh_ways h with ⟨h0,h1⟩ | ⟨h0,h1⟩ | ⟨h0,h1,hs⟩ | ⟨h0,h1⟩
  ·rw [uput_1 h0 h1]; simp
  ·rw [uput_2 h0 h1]; simp
  ·rw [uput_3 h0 h1 hs]; simp
  ·rw [uput_4 h0 h1]; simp

def cont (c : Int) : Prop := 128 ≤ c ∧ c < 192
def un2 (a b : Int) : Int := (a - 192) * 64 + b - 128
def un3 (a b c : Int) : Int := ((a - 224) * 64 + b - 128) * 64 + c - 128
def un4 (a b c d : Int) : Int := (((a - 240) * 64 + b - 128) * 64 + c - 128) * 64 + d - 128
def fit1 (len a : Int) : Prop := 1 ≤ len ∧ a < 128
def fit2 (len a b : Int) : Prop := 2 ≤ len ∧ 194 ≤ a ∧ a < 224 ∧ cont b
def fit3 (len a b c : Int) : Prop := 3 ≤ len ∧ 224 ≤ a ∧ a < 240 ∧ cont b ∧ cont c ∧ 2048 ≤ un3 a b c ∧ (un3 a b c < 55296 ∨ 57343 < un3 a b c)
def fit4 (len a b c d : Int) : Prop := 4 ≤ len ∧ 240 ≤ a ∧ a < 248 ∧ cont b ∧ cont c ∧ cont d ∧ 65536 ≤ un4 a b c d ∧ un4 a b c d ≤ 1114111

instance (len a : Int) : Decidable (fit1 len a) := by unfold fit1; infer_instance
instance (c : Int) : Decidable (cont c) := by unfold cont; infer_instance
instance (len a b : Int) : Decidable (fit2 len a b) := by unfold fit2; infer_instance
instance (len a b c : Int) : Decidable (fit3 len a b c) := by unfold fit3; infer_instance
instance (len a b c d : Int) : Decidable (fit4 len a b c d) := by unfold fit4; infer_instance

theorem getD_drop' (z : List Int) (k i : Nat) : (z.drop k).getD i 0 = z.getD (k + i) 0 := by simp [List.getD]

end Go.Proofs.YtlekfcehmlepkaaGreatDoor

namespace Go.Proofs.YtlekfcehmlepkaaGreatDoor
set_option linter.unusedSimpArgs false

def dgt (c : Int) : Int := if 48 ≤ c ∧ c ≤ 57 then c - 48 else if 97 ≤ c ∧ c ≤ 102 then c - 87 else if 65 ≤ c ∧ c ≤ 70 then c - 55 else 99

theorem dgt_bd (c : Int) : 0 ≤ dgt c ∧ dgt c ≤ 99 := by unfold dgt; repeat' split <;> omega

def qrn (base : Int) : Nat → List Int → Int → Int × Nat
 | 0,_,n => (n,0)
 | _ + 1,[],n => (n,0)
 | f + 1,c :: r,n => if dgt c < base then ((qrn base f r (n * base + dgt c)).1,(qrn base f r (n * base + dgt c)).2 + 1) else (n,0)

theorem qrn_le (base : Int) : ∀ (f : Nat) (s : List Int) (n : Int),(qrn base f s n).2 ≤ f ∧ (qrn base f s n).2 ≤ s.length
 | 0,s,n => ⟨Nat.le_refl _,Nat.zero_le _⟩
 | f + 1,[],n => ⟨Nat.zero_le _,Nat.zero_le _⟩
 | f + 1,c :: r,n => by
  unfold qrn
  split
  ·have := qrn_le base f r (n * base + dgt c)
   simp only [List.length_cons]
   omega
  ·simp

theorem qrn_bd (base : Int) (b0 : 0 ≤ base) (b1 : base ≤ 16) : ∀ (f : Nat) (s : List Int) (n : Int) (k : Nat),0 ≤ n → n < ((16 ^ k : Nat) : Int) → 0 ≤ (qrn base f s n).1 ∧ (qrn base f s n).1 < ((16 ^ (k + f) : Nat) : Int)
 | 0,s,n,k,h0,h1 => ⟨h0,h1⟩
 | f + 1,[],n,k,h0,h1 => by
  have : 16 ^ k ≤ 16 ^ (k + (f + 1)) := Nat.pow_le_pow_right (by omega) (by omega)
  exact ⟨h0,show n < _ by omega⟩
 | f + 1,c :: r,n,k,h0,h1 => by
  have hd := dgt_bd c
  unfold qrn
  split
  ·have e : n * base ≤ n * 16 := Int.mul_le_mul_of_nonneg_left b1 h0
   have e0 : 0 ≤ n * base := Int.mul_nonneg h0 b0
   have := qrn_bd base b0 b1 f r (n * base + dgt c) (k + 1) (by omega) (by rw [Nat.pow_succ]; omega)
   rw [show k + 1 + f = k + (f + 1) by omega] at this
   exact this
  ·have : 16 ^ k ≤ 16 ^ (k + (f + 1)) := Nat.pow_le_pow_right (by omega) (by omega)
   exact ⟨h0,show n < _ by omega⟩

def qesc : List Int → List Int × Nat
 | [] => ([],0)
 | c :: r =>
  if c = 97 then ([7],1) else if c = 98 then ([8],1) else if c = 102 then ([12],1) else if c = 110 then ([10],1) else if c = 114 then ([13],1) else if c = 116 then ([9],1) else if c = 118 then ([11],1)
  else if c = 92 ∨ c = 39 ∨ c = 34 ∨ c = 63 then ([c],1)
  else if c = 120 ∨ c = 88 then (if 0 < (qrn 16 2 r 0).2 then ([(qrn 16 2 r 0).1],1 + (qrn 16 2 r 0).2) else ([],0))
  else if c = 117 then (if (qrn 16 4 r 0).2 = 4 ∧ isCh (qrn 16 4 r 0).1 = true then (uput (qrn 16 4 r 0).1,5) else ([],0))
  else if c = 85 then (if (qrn 16 8 r 0).2 = 8 ∧ isCh (qrn 16 8 r 0).1 = true then (uput (qrn 16 8 r 0).1,9) else ([],0))
  else (if 0 < (qrn 8 3 (c :: r) 0).2 ∧ (qrn 8 3 (c :: r) 0).1 < 256 then ([(qrn 8 3 (c :: r) 0).1],(qrn 8 3 (c :: r) 0).2) else ([],0))

theorem qesc_le (s : List Int) : (qesc s).2 ≤ s.length ∧ (qesc s).2 ≤ 9 ∧ (qesc s).1.length ≤ 4 := by
 cases s with
 | nil => simp [qesc]
 | cons c r =>
  have h1 := qrn_le 16 2 r 0
  have h2 := qrn_le 16 4 r 0
  have h3 := qrn_le 16 8 r 0
  have h4 := qrn_le 8 3 (c :: r) 0
  have h5 := uput_len (qrn 16 4 r 0).1
  have h6 := uput_len (qrn 16 8 r 0).1
  simp only [List.length_cons] at *
  suffices key : ∀ p,qesc (c :: r) = p → p.2 ≤ r.length + 1 ∧ p.2 ≤ 9 ∧ p.1.length ≤ 4 from key _ rfl
  intro p
  rw [qesc]
  by_cases k0 : c = 97
  ·rw [if_pos k0]; rintro rfl; first | (simp only [List.length_cons,List.length_nil]; omega) | (refine ⟨?_,?_,?_⟩ <;> simp only [] <;> omega)
  rw [if_neg k0]
  by_cases k1 : c = 98
  ·rw [if_pos k1]; rintro rfl; first | (simp only [List.length_cons,List.length_nil]; omega) | (refine ⟨?_,?_,?_⟩ <;> simp only [] <;> omega)
  rw [if_neg k1]
  by_cases k2 : c = 102
  ·rw [if_pos k2]; rintro rfl; first | (simp only [List.length_cons,List.length_nil]; omega) | (refine ⟨?_,?_,?_⟩ <;> simp only [] <;> omega)
  rw [if_neg k2]
  by_cases k3 : c = 110
  ·rw [if_pos k3]; rintro rfl; first | (simp only [List.length_cons,List.length_nil]; omega) | (refine ⟨?_,?_,?_⟩ <;> simp only [] <;> omega)
  rw [if_neg k3]
  by_cases k4 : c = 114
  ·rw [if_pos k4]; rintro rfl; first | (simp only [List.length_cons,List.length_nil]; omega) | (refine ⟨?_,?_,?_⟩ <;> simp only [] <;> omega)
  rw [if_neg k4]
  by_cases k5 : c = 116
  ·rw [if_pos k5]; rintro rfl; first | (simp only [List.length_cons,List.length_nil]; omega) | (refine ⟨?_,?_,?_⟩ <;> simp only [] <;> omega)
  rw [if_neg k5]
  by_cases k6 : c = 118
  ·rw [if_pos k6]; rintro rfl; first | (simp only [List.length_cons,List.length_nil]; omega) | (refine ⟨?_,?_,?_⟩ <;> simp only [] <;> omega)
  rw [if_neg k6]
  by_cases k7 : c = 92 ∨ c = 39 ∨ c = 34 ∨ c = 63
  ·rw [if_pos k7]; rintro rfl; first | (simp only [List.length_cons,List.length_nil]; omega) | (refine ⟨?_,?_,?_⟩ <;> simp only [] <;> omega)
  rw [if_neg k7]
  by_cases m0 : c = 120 ∨ c = 88
  ·rw [if_pos m0]
   by_cases j : 0 < (qrn 16 2 r 0).2
   ·rw [if_pos j]; rintro rfl; first | (simp only [List.length_cons,List.length_nil]; omega) | (refine ⟨?_,?_,?_⟩ <;> simp only [] <;> omega)
   ·rw [if_neg j]; rintro rfl; first | (simp only [List.length_cons,List.length_nil]; omega) | (refine ⟨?_,?_,?_⟩ <;> simp only [] <;> omega)
  rw [if_neg m0]
  by_cases m1 : c = 117
  ·rw [if_pos m1]
   by_cases j : (qrn 16 4 r 0).2 = 4 ∧ isCh (qrn 16 4 r 0).1 = true
   ·rw [if_pos j]; rintro rfl; first | (simp only [List.length_cons,List.length_nil]; omega) | (refine ⟨?_,?_,?_⟩ <;> simp only [] <;> omega)
   ·rw [if_neg j]; rintro rfl; first | (simp only [List.length_cons,List.length_nil]; omega) | (refine ⟨?_,?_,?_⟩ <;> simp only [] <;> omega)
  rw [if_neg m1]
  by_cases m2 : c = 85
  ·rw [if_pos m2]
   by_cases j : (qrn 16 8 r 0).2 = 8 ∧ isCh (qrn 16 8 r 0).1 = true
   ·rw [if_pos j]; rintro rfl; first | (simp only [List.length_cons,List.length_nil]; omega) | (refine ⟨?_,?_,?_⟩ <;> simp only [] <;> omega)
   ·rw [if_neg j]; rintro rfl; first | (simp only [List.length_cons,List.length_nil]; omega) | (refine ⟨?_,?_,?_⟩ <;> simp only [] <;> omega)
  rw [if_neg m2]
  by_cases j : 0 < (qrn 8 3 (c :: r) 0).2 ∧ (qrn 8 3 (c :: r) 0).1 < 256
  ·rw [if_pos j]; rintro rfl; first | (simp only [List.length_cons,List.length_nil]; omega) | (refine ⟨?_,?_,?_⟩ <;> simp only [] <;> omega)
  ·rw [if_neg j]; rintro rfl; first | (simp only [List.length_cons,List.length_nil]; omega) | (refine ⟨?_,?_,?_⟩ <;> simp only [] <;> omega)

theorem qesc_bd (s : List Int) (h : ∀ c ∈ s,0 ≤ c ∧ c ≤ 255) : ∀ c ∈ (qesc s).1,0 ≤ c ∧ c ≤ 255 := by
 cases s with
 | nil => simp [qesc]
 | cons c r =>
  have hc := h c (by simp)
  have h1 := qrn_bd 16 (by omega) (by omega) 2 r 0 0 (by omega) (by omega)
  have h4 := qrn_bd 8 (by omega) (by omega) 3 (c :: r) 0 0 (by omega) (by omega)
  have h5 := uput_bd (qrn 16 4 r 0).1
  have h6 := uput_bd (qrn 16 8 r 0).1
  simp only [show 16 ^ (0 + 2) = 256 from rfl] at h1
  suffices key : ∀ p,qesc (c :: r) = p → ∀ x ∈ p.1,0 ≤ x ∧ x ≤ 255 from key _ rfl
  intro p
  rw [qesc]
  by_cases k0 : c = 97
  ·rw [if_pos k0]; rintro rfl; first | exact h5 | exact h6 | (intro x hx; simp only [List.mem_cons,List.not_mem_nil,or_false] at hx; omega) | (intro x hx; cases hx; done)
  rw [if_neg k0]
  by_cases k1 : c = 98
  ·rw [if_pos k1]; rintro rfl; first | exact h5 | exact h6 | (intro x hx; simp only [List.mem_cons,List.not_mem_nil,or_false] at hx; omega) | (intro x hx; cases hx; done)
  rw [if_neg k1]
  by_cases k2 : c = 102
  ·rw [if_pos k2]; rintro rfl; first | exact h5 | exact h6 | (intro x hx; simp only [List.mem_cons,List.not_mem_nil,or_false] at hx; omega) | (intro x hx; cases hx; done)
  rw [if_neg k2]
  by_cases k3 : c = 110
  ·rw [if_pos k3]; rintro rfl; first | exact h5 | exact h6 | (intro x hx; simp only [List.mem_cons,List.not_mem_nil,or_false] at hx; omega) | (intro x hx; cases hx; done)
  rw [if_neg k3]
  by_cases k4 : c = 114
  ·rw [if_pos k4]; rintro rfl; first | exact h5 | exact h6 | (intro x hx; simp only [List.mem_cons,List.not_mem_nil,or_false] at hx; omega) | (intro x hx; cases hx; done)
  rw [if_neg k4]
  by_cases k5 : c = 116
  ·rw [if_pos k5]; rintro rfl; first | exact h5 | exact h6 | (intro x hx; simp only [List.mem_cons,List.not_mem_nil,or_false] at hx; omega) | (intro x hx; cases hx; done)
  rw [if_neg k5]
  by_cases k6 : c = 118
  ·rw [if_pos k6]; rintro rfl; first | exact h5 | exact h6 | (intro x hx; simp only [List.mem_cons,List.not_mem_nil,or_false] at hx; omega) | (intro x hx; cases hx; done)
  rw [if_neg k6]
  by_cases k7 : c = 92 ∨ c = 39 ∨ c = 34 ∨ c = 63
  ·rw [if_pos k7]; rintro rfl; first | exact h5 | exact h6 | (intro x hx; simp only [List.mem_cons,List.not_mem_nil,or_false] at hx; omega) | (intro x hx; cases hx; done)
  rw [if_neg k7]
  by_cases m0 : c = 120 ∨ c = 88
  ·rw [if_pos m0]
   by_cases j : 0 < (qrn 16 2 r 0).2
   ·rw [if_pos j]; rintro rfl; first | exact h5 | exact h6 | (intro x hx; simp only [List.mem_cons,List.not_mem_nil,or_false] at hx; omega) | (intro x hx; cases hx; done)
   ·rw [if_neg j]; rintro rfl; first | exact h5 | exact h6 | (intro x hx; simp only [List.mem_cons,List.not_mem_nil,or_false] at hx; omega) | (intro x hx; cases hx; done)
  rw [if_neg m0]
  by_cases m1 : c = 117
  ·rw [if_pos m1]
   by_cases j : (qrn 16 4 r 0).2 = 4 ∧ isCh (qrn 16 4 r 0).1 = true
   ·rw [if_pos j]; rintro rfl; first | exact h5 | exact h6 | (intro x hx; simp only [List.mem_cons,List.not_mem_nil,or_false] at hx; omega) | (intro x hx; cases hx; done)
   ·rw [if_neg j]; rintro rfl; first | exact h5 | exact h6 | (intro x hx; simp only [List.mem_cons,List.not_mem_nil,or_false] at hx; omega) | (intro x hx; cases hx; done)
  rw [if_neg m1]
  by_cases m2 : c = 85
  ·rw [if_pos m2]
   by_cases j : (qrn 16 8 r 0).2 = 8 ∧ isCh (qrn 16 8 r 0).1 = true
   ·rw [if_pos j]; rintro rfl; first | exact h5 | exact h6 | (intro x hx; simp only [List.mem_cons,List.not_mem_nil,or_false] at hx; omega) | (intro x hx; cases hx; done)
   ·rw [if_neg j]; rintro rfl; first | exact h5 | exact h6 | (intro x hx; simp only [List.mem_cons,List.not_mem_nil,or_false] at hx; omega) | (intro x hx; cases hx; done)
  rw [if_neg m2]
  by_cases j : 0 < (qrn 8 3 (c :: r) 0).2 ∧ (qrn 8 3 (c :: r) 0).1 < 256
  ·rw [if_pos j]; rintro rfl; first | exact h5 | exact h6 | (intro x hx; simp only [List.mem_cons,List.not_mem_nil,or_false] at hx; omega) | (intro x hx; cases hx; done)
  ·rw [if_neg j]; rintro rfl; first | exact h5 | exact h6 | (intro x hx; simp only [List.mem_cons,List.not_mem_nil,or_false] at hx; omega) | (intro x hx; cases hx; done)

def qtk (q : Int) : Nat → List Int → Int → List Int → List Int × Int × Int
 | 0,_,i,_ => ([],i,40)
 | _ + 1,[],i,_ => ([],i,40)
 | f + 1,c :: r,i,out =>
  if c = q then (out,i + 1,0)
  else if c = 0 ∨ c = 10 then ([],i,40)
  else if c = 92 then (if (qesc r).2 = 0 then ([],i,40) else qtk q f (r.drop (qesc r).2) (i + 1 + (qesc r).2) (out ++ (qesc r).1))
  else qtk q f r (i + 1) (out ++ [c])

theorem qtk_fuel (q : Int) : ∀ (f g : Nat) (s : List Int) (i : Int) (out : List Int),s.length ≤ f → s.length ≤ g → qtk q f s i out = qtk q g s i out
 | 0,0,s,i,out,_,_ => rfl
 | 0,g + 1,s,i,out,h,_ => by obtain rfl : s = [] := List.eq_nil_of_length_eq_zero (by omega); rfl
 | f + 1,0,s,i,out,_,h => by obtain rfl : s = [] := List.eq_nil_of_length_eq_zero (by omega); rfl
 | f + 1,g + 1,[],i,out,_,_ => rfl
 | f + 1,g + 1,c :: r,i,out,h1,h2 => by
  simp only [List.length_cons] at h1 h2
  unfold qtk
  rw [qtk_fuel q f g r (i + 1) (out ++ [c]) (by omega) (by omega),qtk_fuel q f g (r.drop (qesc r).2) _ _ (by simp; omega) (by simp; omega)]

def qtake (s : List Int) : List Int × Int × Int :=
 match s with
 | [] => ([],0,40)
 | c :: r => if c = 34 ∨ c = 39 then qtk c r.length r 1 [] else ([],0,40)

def qnm (base : Int) : List Int → Int → Int × Bool
 | [],n => (n,true)
 | c :: r,n => if base ≤ dgt c ∨ (18446744073709551615 - dgt c) / base < n then (0,false) else qnm base r (n * base + dgt c)

def qnum (s : List Int) : Int × Bool :=
 if 2 < s.length ∧ s.getD 0 0 = 48 ∧ (s.getD 1 0 = 120 ∨ s.getD 1 0 = 88) then qnm 16 (s.drop 2) 0
 else if 1 < s.length ∧ s.getD 0 0 = 48 then qnm 8 (s.drop 1) 0
 else if s = [] then (0,false) else qnm 10 s 0

def qdg : Nat → Int → List Int
 | 0,_ => []
 | f + 1,n => if n < 10 then [48 + n] else qdg f (n / 10) ++ [48 + n % 10]

/-! ### Digits -/
theorem qdg_ten (f : Nat) (n : Int) (h : n < 10) : qdg (f + 1) n = [48 + n] := by rw [qdg,if_pos h]

theorem qdg_more (f : Nat) (n : Int) (h : 10 ≤ n) : qdg (f + 1) n = qdg f (n / 10) ++ [48 + n % 10] := by rw [qdg,if_neg (by omega)]

theorem qdg_bd : ∀ (f : Nat) (n : Int),0 ≤ n → (∀ c ∈ qdg f n,48 ≤ c ∧ c ≤ 57) ∧ (qdg f n).length ≤ f
 | 0,n,h => by simp [qdg]
 | f + 1,n,h => by
  by_cases k : n < 10
  ·rw [qdg_ten f n k]; simp; omega
  ·rw [qdg_more f n (by omega)]
   have := qdg_bd f (n / 10) (by omega)
   refine ⟨fun c hc => ?_,by simp; omega⟩
   rcases List.mem_append.1 hc with hc | hc
   ·exact this.1 c hc
   ·simp at hc; omega

end Go.Proofs.YtlekfcehmlepkaaGreatDoor

namespace Go.Proofs.YtlekfcehmlepkaaGreatDoor
set_option linter.unusedSimpArgs false

def lblank (c : Int) : Bool := decide (c = 32 ∨ (9 ≤ c ∧ c ≤ 13))

def lletter (c : Int) : Bool := decide ((97 ≤ c ∧ c ≤ 122) ∨ (65 ≤ c ∧ c ≤ 90) ∨ (48 ≤ c ∧ c ≤ 57) ∨ c = 95)

def lnumb (c : Int) : Bool := decide (48 ≤ c ∧ c ≤ 57)

def lsign (c : Int) : Bool := decide (c = 59 ∨ c = 44 ∨ c = 46 ∨ c = 61 ∨ c = 123 ∨ c = 125 ∨ c = 91 ∨ c = 93 ∨ c = 40 ∨ c = 41 ∨ c = 60 ∨ c = 62 ∨ c = 58 ∨ c = 45)

def lnAt (s : List Int) : Nat → Nat
 | 0 => 0
 | k + 1 => if s.getD k 0 = 10 then k + 1 else lnAt s k

theorem lnAt_le (s : List Int) : ∀ k,lnAt s k ≤ k
 | 0 => Nat.le_refl _
 | k + 1 => by
  unfold lnAt
  split
  ·exact Nat.le_refl _
  ·have := lnAt_le s k; omega

def lrun (p : Int → Bool) (s : List Int) (to : Nat) : Nat → Nat → Nat
 | 0,i => i
 | f + 1,i => if i < to ∧ p (s.getD i 0) = true then lrun p s to f (i + 1) else i

theorem lrun_ge (p : Int → Bool) (s : List Int) (to : Nat) : ∀ f i,i ≤ lrun p s to f i
 | 0,i => Nat.le_refl _
 | f + 1,i => by
  unfold lrun
  split
  ·have := lrun_ge p s to f (i + 1); omega
  ·exact Nat.le_refl _

theorem lrun_le (p : Int → Bool) (s : List Int) (to : Nat) : ∀ f i,i ≤ to → lrun p s to f i ≤ to
 | 0,i,h => h
 | f + 1,i,h => by
  unfold lrun
  split
  ·exact lrun_le p s to f (i + 1) (by omega)
  ·exact h

def leol (c : Int) : Bool := decide (c ≠ 10)

def lown (s : List Int) (frm to : Nat) : Option (List Int) :=
 let i := lrun lblank s to (to - frm) frm
 if i + 2 ≤ to ∧ s.getD i 0 = 47 ∧ s.getD (i + 1) 0 = 47 then some ((s.take to).drop (i + 2)) else none

def linside : List Nat → Nat → Bool
 | a :: b :: r,k => decide (a < k ∧ k < b) || linside r k
 | _,_ => false

def ldl (s : List Int) (marks : List Nat) : Nat → Nat → List Int → List Int
 | 0,_,out => out
 | f + 1,frm,out =>
  if frm = 0 then out else
  match lown s (lnAt s (frm - 1)) (frm - 1) with
  | none => out
  | some t => if linside marks (lnAt s (frm - 1)) || linside marks (frm - 1) then out else ldl s marks f (lnAt s (frm - 1)) (t ++ [10] ++ out)

def ldoc (s : List Int) (k : Nat) (marks : List Nat) : List Int :=
 if lrun lblank s k (k - lnAt s k) (lnAt s k) = k then ldl s marks (lnAt s k) (lnAt s k) [] else []

structure Tk where
 kind : Int
 text : List Int
 n : Int
 pos : Nat
 doc : List Int
deriving DecidableEq

def lcl (s : List Int) : Nat → Nat → Nat
 | 0,k => k
 | f + 1,k => if k + 1 < s.length ∧ ¬ (s.getD k 0 = 42 ∧ s.getD (k + 1) 0 = 47) then lcl s f (k + 1) else k

theorem lcl_ge (s : List Int) : ∀ f k,k ≤ lcl s f k
 | 0,k => Nat.le_refl _
 | f + 1,k => by
  unfold lcl
  split
  ·have := lcl_ge s f (k + 1); omega
  ·exact Nat.le_refl _

def lpc (s : List Int) (i k : Nat) : List Int := (s.take k).drop i

def ltok (s : List Int) (i : Nat) (doc : List Int) : (Tk × Nat) ⊕ (Int × Int) :=
 if lletter (s.getD i 0) = true then
  let k := lrun lletter s s.length (s.length - (i + 1)) (i + 1)
  if lnumb (s.getD i 0) = true then
   (if (qnum (lpc s i k)).2 = true then .inl (⟨2,[],(qnum (lpc s i k)).1,i,doc⟩,k) else .inr ((i : Int),52))
  else .inl (⟨1,lpc s i k,0,i,doc⟩,k)
 else if s.getD i 0 = 34 ∨ s.getD i 0 = 39 then
  (if (qtake (s.drop i)).2.2 = 0 then .inl (⟨3,(qtake (s.drop i)).1,0,i,doc⟩,i + (qtake (s.drop i)).2.1.toNat) else .inr ((i : Int) + (qtake (s.drop i)).2.1,(qtake (s.drop i)).2.2))
 else if lsign (s.getD i 0) = true then .inl (⟨4,lpc s i (i + 1),0,i,doc⟩,i + 1)
 else .inr ((i : Int),50)

def lsc (s : List Int) : Nat → Nat → List Tk → List Nat → List Tk × Int × Int
 | 0,_,_,_ => ([],0,0)
 | f + 1,i0,out,marks =>
  let i := lrun lblank s s.length (s.length - i0) i0
  if i = s.length then (out ++ [⟨0,[],0,i,ldoc s i marks⟩],0,0)
  else if i + 1 < s.length ∧ s.getD i 0 = 47 ∧ s.getD (i + 1) 0 = 47 then lsc s f (lrun leol s s.length (s.length - i) i) out marks
  else if i + 1 < s.length ∧ s.getD i 0 = 47 ∧ s.getD (i + 1) 0 = 42 then
   (let k := lcl s (s.length - (i + 2)) (i + 2)
    if k + 1 < s.length then lsc s f (k + 2) out (marks ++ [i,k + 1]) else ([],(i : Int),51))
  else match ltok s i (ldoc s i marks) with
   | .inl (t,k) => lsc s f k (out ++ [t]) marks
   | .inr (k,e) => ([],k,e)

def lscan (s : List Int) : List Tk × Int × Int := if 100000 < s.length then ([],0,2) else lsc s (s.length + 1) 0 [] []

end Go.Proofs.YtlekfcehmlepkaaGreatDoor

namespace Go.Proofs.YtlekfcehmlepkaaGreatDoor
set_option linter.unusedSimpArgs false
set_option linter.unusedVariables false

def nident (s : List Int) : Bool := s.all lletter && decide (1 ≤ s.length ∧ s.length ≤ 200) && !lnumb (s.getD 0 0)

def nsp : List Int → List Int → List (List Int)
 | cur,[] => [cur]
 | cur,c :: r => if c = 46 then cur :: nsp [] r else nsp (cur ++ [c]) r

def nparts (s : List Int) : List (List Int) := nsp [] s

def nfull (s : List Int) : Bool := decide (s.length ≤ 1000) && (nparts s).all nident

def njoin (a b : List Int) : List Int := if a = [] then b else a ++ [46] ++ b

def ncam : Bool → List Int → List Int
 | _,[] => []
 | g,c :: r => if c = 95 then ncam true r else (if g = true ∧ 97 ≤ c ∧ c ≤ 122 then c - 32 else c) :: ncam false r

theorem ncam_bd : ∀ (s : List Int) (g : Bool),(∀ c ∈ s,0 ≤ c ∧ c ≤ 255) → ∀ c ∈ ncam g s,0 ≤ c ∧ c ≤ 255
 | [],g,h => by simp [ncam]
 | c :: r,g,h => by
  rw [ncam]
  have hr : ∀ x ∈ r,0 ≤ x ∧ x ≤ 255 := fun x hx => h x (by simp [hx])
  have hc := h c (by simp)
  split
  ·exact ncam_bd r true hr
  ·intro x hx
   rcases List.mem_cons.1 hx with hx | hx
   ·subst hx
    split <;> omega
   ·exact ncam_bd r false hr x hx

end Go.Proofs.YtlekfcehmlepkaaGreatDoor

namespace Go.Proofs.YtlekfcehmlepkaaGreatDoor
open Go.RowKit

theorem Tryz.info5 : (Tryz.prog.info? 5).map (fun i => (i.zero,i.size,i.bytes)) = some (some (.int .u8 0),1,1) := by kernel_rfl

theorem row_open {w : World} {a : Option Addr} {len cap : Nat} {zs : List Int}
  (h : (a = none ∧ len = 0 ∧ cap = 0 ∧ zs = []) ∨ ∃ x,a = some x ∧ len ≤ cap ∧ cap ≤ maxLen ∧ zs.length = cap ∧ (∀ i,i < zs.length → w.cell? (x.add i) = some (.int .u8 (zs.getD i 0))) ∧ ∀ n ∈ zs,(Lit.int .u8 n).wf = true) :
  (len : Int) ≤ 9223372036854775807 ∧ (zs.take len).length = len ∧ (∀ i,0 ≤ (zs.take len).getD i 0 ∧ (zs.take len).getD i 0 ≤ 255) ∧
   (0 < len → ∃ b off,a = some ⟨b,off,none⟩ ∧ b < w.heap.size ∧ ∀ i,i < len → w.cell? ⟨b,off + i,none⟩ = some (.int .u8 ((zs.take len).getD i 0))) := by
 rcases h with ⟨rfl,rfl,rfl,rfl⟩ | ⟨x,rfl,hl,hm,hz,hcell,hwz⟩
 ·exact ⟨by omega,rfl,fun i => by simp,fun h => absurd h (by omega)⟩
 ·refine ⟨by unfold maxLen at hm; omega,by simp; omega,?_,?_⟩
  ·intro i
   rcases Nat.lt_or_ge i (zs.take len).length with h | h
   ·have hm := List.getElem_mem h
    have := bounds_u8 (hwz _ (List.mem_of_mem_take hm))
    simp only [List.getD,List.getElem?_eq_getElem h,Option.getD_some]
    omega
   ·simp [List.getD,List.getElem?_eq_none h]
  ·intro h0
   obtain ⟨b,off,spot⟩ := x
   have hc := hcell 0 (by omega)
   have hspot : spot = none := by simpa [Addr.add] using World.cell?_spot hc
   subst hspot
   refine ⟨b,off,rfl,?_,?_⟩
   ·rcases Nat.lt_or_ge b w.heap.size with h | h
    ·exact h
    ·simp [World.cell?,Addr.add,Array.getElem?_eq_none h] at hc
   ·intro i hi
    have := hcell i (by omega)
    have hp : (⟨b,off,none⟩ : Addr).add i = ⟨b,off + i,none⟩ := by unfold Addr.add; split <;> simp_all
    rw [hp] at this
    rw [this]
    simp [List.getD,hi]

def Bs (w : World) (a : Option Addr) (len cap : Nat) (zs : List Int) : Prop :=
 zs.length = len ∧ (len : Int) ≤ 9223372036854775807 ∧ (∀ i,0 ≤ zs.getD i 0 ∧ zs.getD i 0 ≤ 255) ∧ len ≤ cap ∧ (a = none → cap = 0) ∧
  (0 < len → ∃ b off,a = some ⟨b,off,none⟩ ∧ b < w.heap.size ∧ ∀ i,i < len → w.cell? ⟨b,off + i,none⟩ = some (.int .u8 (zs.getD i 0)))

theorem Bs.below {w w' : World} {a : Option Addr} {len cap : Nat} {zs : List Int} (h : Bs w a len cap zs) {B : Nat} (hb : Below B w w') (hB : w.heap.size ≤ B) : Bs w' a len cap zs := by
 obtain ⟨h1,h2,h3,h4,h5,h6⟩ := h
 refine ⟨h1,h2,h3,h4,h5,fun hp => ?_⟩
 obtain ⟨b,off,rfl,hlt,hc⟩ := h6 hp
 exact ⟨b,off,rfl,Nat.lt_of_lt_of_le hlt hb.size,fun i hi => (hb.cell (show b < B by omega)).trans (hc i hi)⟩

theorem Bs.of_row {w : World} {a : Option Addr} {len cap : Nat} {zs : List Int}
  (h : (a = none ∧ len = 0 ∧ cap = 0 ∧ zs = []) ∨ ∃ x,a = some x ∧ len ≤ cap ∧ cap ≤ maxLen ∧ zs.length = cap ∧ (∀ i,i < zs.length → w.cell? (x.add i) = some (.int .u8 (zs.getD i 0))) ∧ ∀ n ∈ zs,(Lit.int .u8 n).wf = true) :
  Bs w a len cap (zs.take len) := by
 obtain ⟨h1,h2,h3,h4⟩ := row_open h
 refine ⟨h2,h1,h3,?_,?_,h4⟩
 ·rcases h with ⟨_,rfl,_,_⟩ | ⟨x,_,hl,_⟩
  ·exact Nat.zero_le _
  ·exact hl
 ·intro hn
  rcases h with ⟨_,_,rfl,_⟩ | ⟨x,hx,_⟩
  ·rfl
  ·rw [hn] at hx; simp at hx

theorem getD_bd {l : List Int} (h : ∀ c ∈ l,0 ≤ c ∧ c ≤ 255) (i : Nat) : 0 ≤ l.getD i 0 ∧ l.getD i 0 ≤ 255 := by
 rcases Nat.lt_or_ge i l.length with hl | hl
 ·simp only [List.getD,List.getElem?_eq_getElem hl,Option.getD_some]
  exact h _ (List.getElem_mem hl)
 ·simp [List.getD,List.getElem?_eq_none hl]

theorem mem_bd {l : List Int} (h : ∀ i,0 ≤ l.getD i 0 ∧ l.getD i 0 ≤ 255) : ∀ c ∈ l,0 ≤ c ∧ c ≤ 255 := by
 intro c hc
 obtain ⟨i,hi,rfl⟩ := List.getElem_of_mem hc
 have := h i
 simpa [List.getD,List.getElem?_eq_getElem hi] using this

theorem Bs.of_owns {w : World} {base n : Nat} {a : Option Addr} {len cap : Nat} {zs : List Int} (h : w.ownsRow base 5 1 (.slice a len cap) n (zs.map (Value.int .u8))) (hb : ∀ c ∈ zs,0 ≤ c ∧ c ≤ 255) : Bs w a len cap zs := by
 have hz := h.1
 simp at hz
 rcases h.2 with ⟨he,hn⟩ | ⟨g,c,cur,he,hg,hh,h1,h2,h3,h4⟩
 ·simp at he
  obtain ⟨rfl,rfl,rfl⟩ := he
  have : zs = [] := List.eq_nil_of_length_eq_zero (by omega)
  subst this
  exact ⟨rfl,by omega,fun i => by simp,Nat.le_refl _,fun _ => rfl,fun h => absurd h (by omega)⟩
 ·simp at he
  obtain ⟨rfl,rfl,rfl⟩ := he
  refine ⟨hz,by unfold maxLen at h2; omega,getD_bd hb,h1,fun h => by simp at h,fun hp => ⟨g,0,rfl,?_,fun i hi => ?_⟩⟩
  ·exact (h.lt g rfl).2
  ·have := h.cellAt i (by omega)
   rw [Nat.zero_add,this]
   simp [List.getElem?_eq_getElem (show i < zs.length by omega),List.getD]

theorem Bs.conv {w : World} {a : Option Addr} {len cap : Nat} {zs : List Int} (h : Bs w a len cap zs) :
  (convert 41 9 (.slice a len cap)).run Tryz.prog w = .ok (.string (strOfNums zs)) w := by
 obtain ⟨h1,h2,h3,h4,h5,h6⟩ := h
 by_cases hp : 0 < len
 ·obtain ⟨b,off,rfl,_,hc⟩ := h6 hp
  exact run_convert_bytes_arg w 41 5 Tryz.underlying41 Tryz.underlying5 b off len cap zs h1 hc 9 Tryz.underlying9
 ·have hl : len = 0 := by omega
  subst hl
  have hz : zs = [] := List.eq_nil_of_length_eq_zero h1
  subst hz
  cases a with
  | none => exact run_convert_bytes_nil w 41 5 Tryz.underlying41 Tryz.underlying5 0 cap 9 Tryz.underlying9
  | some x =>
   rw [run_convert_bytes_string w 41 9 5 _ 0 cap Tryz.underlying41 Tryz.underlying5 Tryz.underlying9]
   have hl := run_loadCells_list (P := Tryz.prog) w x [] (fun j v hj => by simp at hj)
   exact run_bytesToString w x 0 cap [] (by simpa using hl)

theorem ints_one (l : List Int) : ∀ u,u ∈ l.map (Value.int .u8) → u.oneCell' = true := by
 intro u hu
 obtain ⟨n,_,rfl⟩ := List.mem_map.1 hu
 rfl

theorem own_below {W W' : World} {base e sz n : Nat} {v : Value} {xs : List Value} (h : W.ownsRow base e sz v n xs) (hb : Below W.heap.size W W') : W'.ownsRow base e sz v n xs :=
 h.kept (row := none) ⟨hb.os,hb.tape,hb.output,hb.size,fun k hk _ => hb.block k hk⟩ (by cases hv : v.ownBlock <;> simp)

theorem own_base {W : World} {base base' e sz n : Nat} {v : Value} {xs : List Value} (h : W.ownsRow base e sz v n xs) (hb : base' ≤ base) : W.ownsRow base' e sz v n xs := by
 refine ⟨h.1,?_⟩
 rcases h.2 with h | ⟨g,c,cur,h1,h2,h3⟩
 ·exact .inl h
 ·exact .inr ⟨g,c,cur,h1,Nat.le_trans hb h2,h3⟩

theorem own_slice {w : World} {base : Nat} {e : TypeId} {size n : Nat} {v : Value} {xs : List Value} (h : w.ownsRow base e size v n xs) : ∃ a c,v = .slice a n c := by
 rcases h.2 with ⟨rfl,rfl⟩ | ⟨g,c,cur,rfl,_⟩
 ·exact ⟨none,0,rfl⟩
 ·exact ⟨some ⟨g,0,none⟩,c,rfl⟩

theorem run_append_bs {w : World} {base n : Nat} {v : Value} {xs : List Value} {a : Option Addr} {len cap : Nat} {zs : List Int} (ty : TypeId)
  (hown : w.ownsRow base 5 1 v n xs) (hbs : Bs w a len cap zs) (hn : n + len ≤ 140737488355328) (hbase : base ≤ w.heap.size) :
  ∃ v' w',(Builtin.append_ #[41,41] ty #[v,.slice a len cap]).run Tryz.prog w = .ok v' w' ∧ w'.ownsRow base 5 1 v' (n + len) (xs ++ zs.map (Value.int .u8)) ∧ w.grownBy w' v.ownBlock := by
 obtain ⟨i0,hi,hz0,hz1,hz2⟩ := info_parts Tryz.info5
 obtain ⟨h1,h2,h3,h4,h5,h6⟩ := hbs
 cases a with
 | none =>
  have hc := h5 rfl
  have hl : len = 0 := by omega
  subst hc hl
  have hz : zs = [] := List.eq_nil_of_length_eq_zero h1
  subst hz
  refine ⟨v,w,run_append_owned_none w base 41 ty 5 i0 1 Tryz.underlying41 hi v n xs hown,by simpa using hown,⟨rfl,rfl,rfl,Nat.le_refl _,fun _ _ _ => rfl⟩⟩
 | some ad =>
  obtain ⟨v',w',hr,ho,hg,_⟩ := run_append_own (P := Tryz.prog) w base 41 ty 5 i0 (.int .u8 0) 1 1 Tryz.underlying41 hi hz0 hz1 hz2 rfl (by decide) v n xs hown ad len cap (zs.map (Value.int .u8)) (by simp [h1])
   (fun j u hj => by
    rcases Nat.lt_or_ge j len with h | h
    ·obtain ⟨b,off,e,_,hc⟩ := h6 (by omega)
     simp at e
     subst e
     have hp : (⟨b,off,none⟩ : Addr).add j = ⟨b,off + j,none⟩ := by unfold Addr.add; split <;> simp_all
     rw [hp,hc j h]
     simp [List.getElem?_eq_getElem (show j < zs.length by omega),List.getD] at hj ⊢
     exact hj
    ·simp [List.getElem?_eq_none (show zs.length ≤ j by omega)] at hj)
   (ints_one zs) (by unfold maxLen; omega) (by omega) hbase
  exact ⟨v',w',hr,ho,hg⟩

theorem wp_append_bs {w : World} {o : Oper} {f : Act} {K : Act → World → Prop} {Q : Exit → Act → World → Prop} (s x : Operand)
  (ho : o.op = .call { callee := .builtin .append,args := #[s,x],argTypes := #[41,41] }) (base : Nat) (v : Value) (n : Nat) (xs : List Value) (a : Option Addr) (len cap : Nat) (zs : List Int)
  (hs : f.eval s = v) (hx : f.eval x = .slice a len cap) (hown : w.ownsRow base 5 1 v n xs) (hbs : Bs w a len cap zs) (hn : n + len ≤ 140737488355328) (hbase : base ≤ w.heap.size)
  (h : ∀ v' w',w'.ownsRow base 5 1 v' (n + len) (xs ++ zs.map (Value.int .u8)) → w.grownBy w' v.ownBlock → K (f.put o.dst v') w') : o.wp Tryz.prog f w K Q := by
 obtain ⟨v',w',hrun,h1,h2⟩ := run_append_bs (ty := o.type) hown hbs hn hbase
 unfold Oper.wp
 simp [execOp,ho,resolve,invoke,builtin,hs,hx,hrun,Result.andThen]
 exact h v' w' h1 h2

theorem wpList_append_bs {w : World} {ops : Array Oper} {rest : List Oper} {o : Oper} {f : Act} {Q : Exit → Act → World → Prop} (hgd : o.guard = none) (s x : Operand)
  (ho : o.op = .call { callee := .builtin .append,args := #[s,x],argTypes := #[41,41] }) (base : Nat) (v : Value) (n : Nat) (xs : List Value) (a : Option Addr) (len cap : Nat) (zs : List Int)
  (hs : f.eval s = v) (hx : f.eval x = .slice a len cap) (hown : w.ownsRow base 5 1 v n xs) (hbs : Bs w a len cap zs) (hn : n + len ≤ 140737488355328) (hbase : base ≤ w.heap.size)
  (h : ∀ v' w',w'.ownsRow base 5 1 v' (n + len) (xs ++ zs.map (Value.int .u8)) → w.grownBy w' v.ownBlock → wpList Tryz.prog ops Q rest (f.put o.dst v') w') : wpList Tryz.prog ops Q (o :: rest) f w := by
 refine wpList_plain hgd fun K hK => ?_
 exact wp_append_bs s x ho base v n xs a len cap zs hs hx hown hbs hn hbase (fun v' w' h1 h2 => hK _ _ (h v' w' h1 h2))

open Go.ChangeShapes Go.WideShapes Go.ChangeAt
theorem bs_open {H : Type} {enc : TypeId × Value → H} {W : World} {a : Option Addr} {len cap fuel : Nat} {x : DataW H × List MemPlace}
  (hf : DataW.trod enc Tryz.prog W 0 (fun _ => true) true fuel 41 [.slice a len cap] = some x) : ∃ zs,Bs W a len cap zs := by
 rcases open_ints Tryz.underlying41 Tryz.underlying5 (by kernel_rfl) hf with ⟨hcs,_⟩ | ⟨y,l,c,zs,hcs,_,hl,hm,hz,_,hcell,hwz⟩
 ·simp at hcs
  obtain ⟨rfl,rfl,rfl⟩ := hcs
  exact ⟨_,Bs.of_row (zs := []) (.inl ⟨rfl,rfl,rfl,rfl⟩)⟩
 ·simp at hcs
  obtain ⟨rfl,rfl,rfl⟩ := hcs
  exact ⟨_,Bs.of_row (zs := zs) (.inr ⟨_,rfl,hl,hm,by simpa using hz,hcell,hwz⟩)⟩

theorem u8_inj {a b : Int} (ha : 0 ≤ a ∧ a ≤ 255) (hb : 0 ≤ b ∧ b ≤ 255) (h : UInt8.ofNat a.toNat = UInt8.ofNat b.toNat) : a = b := by
 have e := congrArg UInt8.toNat h
 simp only [UInt8.toNat_ofNat'] at e
 omega

theorem u8s_inj : ∀ (a b : List Int),(∀ c ∈ a,0 ≤ c ∧ c ≤ 255) → (∀ c ∈ b,0 ≤ c ∧ c ≤ 255) → (a.map fun n => UInt8.ofNat n.toNat) = (b.map fun n => UInt8.ofNat n.toNat) → a = b
 | [],[],_,_,_ => rfl
 | [],y :: b,_,_,h => by simp at h
 | x :: a,[],_,_,h => by simp at h
 | x :: a,y :: b,ha,hb,h => by
  simp only [List.map_cons,List.cons.injEq] at h
  rw [u8_inj (ha x (by simp)) (hb y (by simp)) h.1,u8s_inj a b (fun c hc => ha c (by simp [hc])) (fun c hc => hb c (by simp [hc])) h.2]

theorem str_eq {z1 z2 : List Int} (h1 : ∀ c ∈ z1,0 ≤ c ∧ c ≤ 255) (h2 : ∀ c ∈ z2,0 ≤ c ∧ c ≤ 255) : ((strOfNums z1).toList == (strOfNums z2).toList) = (z1 == z2) := by
 rw [ByteArray.toList_eq,ByteArray.toList_eq,strOfNums_data,strOfNums_data,Bool.eq_iff_iff]
 simp only [beq_iff_eq]
 exact ⟨u8s_inj z1 z2 h1 h2,fun h => by rw [h]⟩

theorem ret_bool {a b : Bool} (h : a = b) : Ending.returned (.bool a) = .returned (.bool b) := by rw [h]

end Go.Proofs.YtlekfcehmlepkaaGreatDoor

namespace Go.Proofs.YtlekfcehmlepkaaGreatDoor
open Go.RowKit

set_option maxHeartbeats 400000 in
theorem rchar_any (n : Int) (w : World) :
  Calls Tryz.prog 107 #[.int .i64 n] w fun e w' => e = .returned (.bool (isCh n)) ∧ w = w' := by
 by_cases h0 : 0 ≤ n
 ·by_cases h1 : n ≤ 1114111
  ·by_cases h2 : n < 55296
   ·have E : Hid (isCh n = true) := by show _ = _; rw [isCh_iff]; omega
    go_enter Tryz.func107,Tryz.ntmps107
    go_wp2
    go_ret
    exact ⟨by rw [E.out]; rfl,rfl⟩
   ·by_cases h3 : 57343 < n
    ·have E : Hid (isCh n = true) := by show _ = _; rw [isCh_iff]; omega
     go_enter Tryz.func107,Tryz.ntmps107
     go_wp2
     go_ret
     exact ⟨by rw [E.out]; rfl,rfl⟩
    ·have E : Hid (isCh n = false) := by show _ = _; rw [← Bool.not_eq_true,isCh_iff]; omega
     go_enter Tryz.func107,Tryz.ntmps107
     go_wp2
     go_ret
     exact ⟨by rw [E.out]; rfl,rfl⟩
  ·have E : Hid (isCh n = false) := by show _ = _; rw [← Bool.not_eq_true,isCh_iff]; omega
   go_enter Tryz.func107,Tryz.ntmps107
   go_wp2
   go_ret
   exact ⟨by rw [E.out]; rfl,rfl⟩
 ·have E : Hid (isCh n = false) := by show _ = _; rw [← Bool.not_eq_true,isCh_iff]; omega
  go_enter Tryz.func107,Tryz.ntmps107
  go_wp2
  go_ret
  exact ⟨by rw [E.out]; rfl,rfl⟩

theorem lit_row (w : World) (e : TypeId) (xs : Array Value) (n : Nat) (hn : xs.size = n) (hm : n ≤ 1000) : (w.alloc (.cells xs e)).ownsRow w.heap.size e 1 (.slice (some ⟨w.heap.size,0,none⟩) n n) n xs.toList := by
 subst hn
 refine ⟨by simp,.inr ⟨w.heap.size,xs.size,xs,rfl,Nat.le_refl _,heap_alloc_new _ _,Nat.le_refl _,by unfold maxLen; omega,by simp,by rw [Nat.mul_one]; exact List.take_of_length_le (by simp)⟩⟩

set_option maxHeartbeats 400000 in
theorem rputr_1 (n : Int) (w : World) (h0 : 0 ≤ n) (h1 : n < 128) :
  Calls Tryz.prog 108 #[.int .i32 n] w fun e w' => ∃ v,e = .returned v ∧
   w'.ownsRow w.heap.size 5 1 v (uput n).length ((uput n).map (Value.int .u8)) ∧ Below w.heap.size w w' := by
 have W : Hid (uput n = [n]) := uput_1 h0 h1
 have E : Hid (isCh n = true) := by show _ = _; rw [isCh_iff]; omega
 go_enter Tryz.func108,Tryz.ntmps108
 go_wp2_with fail
 refine (rchar_any _ _).mono ?_
 rintro e w' ⟨rfl,rfl⟩
 rw [E.out]
 go_wp2
 go_ret
 refine ⟨_,rfl,?_,(Below.refl _ _).alloc (Nat.le_refl _) _⟩
 rw [W.out]
 exact lit_row w 5 _ 1 rfl (by omega)

set_option maxHeartbeats 400000 in
theorem rputr_2 (n : Int) (w : World) (h0 : 128 ≤ n) (h1 : n < 2048) :
  Calls Tryz.prog 108 #[.int .i32 n] w fun e w' => ∃ v,e = .returned v ∧
   w'.ownsRow w.heap.size 5 1 v (uput n).length ((uput n).map (Value.int .u8)) ∧ Below w.heap.size w w' := by
 have W : Hid (uput n = [192 + n / 64,128 + n % 64]) := uput_2 h0 h1
 have E : Hid (isCh n = true) := by show _ = _; rw [isCh_iff]; omega
 go_enter Tryz.func108,Tryz.ntmps108
 go_wp2_with fail
 refine (rchar_any _ _).mono ?_
 rintro e w' ⟨rfl,rfl⟩
 rw [E.out]
 go_wp2
 go_ret
 refine ⟨_,rfl,?_,(Below.refl _ _).alloc (Nat.le_refl _) _⟩
 rw [W.out]
 exact lit_row w 5 _ 2 rfl (by omega)

set_option maxHeartbeats 400000 in
theorem rputr_3 (n : Int) (w : World) (h0 : 2048 ≤ n) (h1 : n < 65536) (hs : n < 55296 ∨ 57343 < n) :
  Calls Tryz.prog 108 #[.int .i32 n] w fun e w' => ∃ v,e = .returned v ∧
   w'.ownsRow w.heap.size 5 1 v (uput n).length ((uput n).map (Value.int .u8)) ∧ Below w.heap.size w w' := by
 have W : Hid (uput n = [224 + n / 4096,128 + n / 64 % 64,128 + n % 64]) := uput_3 h0 h1 hs
 have E : Hid (isCh n = true) := by show _ = _; rw [isCh_iff]; omega
 go_enter Tryz.func108,Tryz.ntmps108
 go_wp2_with fail
 refine (rchar_any _ _).mono ?_
 rintro e w' ⟨rfl,rfl⟩
 rw [E.out]
 go_wp2
 go_ret
 refine ⟨_,rfl,?_,(Below.refl _ _).alloc (Nat.le_refl _) _⟩
 rw [W.out]
 exact lit_row w 5 _ 3 rfl (by omega)

set_option maxHeartbeats 400000 in
theorem rputr_4 (n : Int) (w : World) (h0 : 65536 ≤ n) (h1 : n ≤ 1114111) :
  Calls Tryz.prog 108 #[.int .i32 n] w fun e w' => ∃ v,e = .returned v ∧
   w'.ownsRow w.heap.size 5 1 v (uput n).length ((uput n).map (Value.int .u8)) ∧ Below w.heap.size w w' := by
 have W : Hid (uput n = [240 + n / 262144,128 + n / 4096 % 64,128 + n / 64 % 64,128 + n % 64]) := uput_4 h0 h1
 have E : Hid (isCh n = true) := by show _ = _; rw [isCh_iff]; omega
 go_enter Tryz.func108,Tryz.ntmps108
 go_wp2_with fail
 refine (rchar_any _ _).mono ?_
 rintro e w' ⟨rfl,rfl⟩
 rw [E.out]
 go_wp2
 go_ret
 refine ⟨_,rfl,?_,(Below.refl _ _).alloc (Nat.le_refl _) _⟩
 rw [W.out]
 exact lit_row w 5 _ 4 rfl (by omega)

set_option maxHeartbeats 400000 in
theorem rputr_no (n : Int) (w : World) (b0 : -2147483648 ≤ n) (b1 : n ≤ 2147483647) (hn : isCh n = false) :
  Calls Tryz.prog 108 #[.int .i32 n] w fun e w' => e = .returned (.slice none 0 0) ∧ w = w' := by
 go_enter Tryz.func108,Tryz.ntmps108
 go_wp2_with fail
 refine (rchar_any _ _).mono ?_
 rintro e w' ⟨rfl,rfl⟩
 rw [hn]
 go_wp2
 go_ret
 exact ⟨rfl,rfl⟩

theorem rputr_any (n : Int) (w : World) (b0 : -2147483648 ≤ n) (b1 : n ≤ 2147483647) :
  Calls Tryz.prog 108 #[.int .i32 n] w fun e w' => ∃ v,e = .returned v ∧
   w'.ownsRow w.heap.size 5 1 v (uput n).length ((uput n).map (Value.int .u8)) ∧ Below w.heap.size w w' := by
 cases h : isCh n with
 | false =>
  refine (rputr_no n w b0 b1 h).mono ?_
  rintro e w' ⟨rfl,rfl⟩
  rw [uput_no h]
  exact ⟨_,rfl,World.ownsRow_nil _ _ _ _,Below.refl _ _⟩
 | true =>
  rcases isCh_ways h with ⟨h0,h1⟩ | ⟨h0,h1⟩ | ⟨h0,h1,hs⟩ | ⟨h0,h1⟩
  ·exact rputr_1 n w h0 h1
  ·exact rputr_2 n w h0 h1
  ·exact rputr_3 n w h0 h1 hs
  ·exact rputr_4 n w h0 h1

end Go.Proofs.YtlekfcehmlepkaaGreatDoor
