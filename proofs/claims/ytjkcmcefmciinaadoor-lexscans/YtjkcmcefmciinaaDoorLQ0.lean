/- The reference's own Scan in pieces: its code cut where statements part, what a piece goes to, and the frame. -/
import Derived.Test.YtjkcmcefmciinaaDoorLScnD
import Derived.Test.YtjkcmcefmciinaaDoorLSt
namespace Go.Proofs.YtjkcmcefmciinaaDoor
open Go.RowKit
set_option linter.unusedVariables false
set_option linter.unusedSimpArgs false

def goR : Code → Code
  | .seq _ b => b
  | c => c

def goL : Code → Code
  | .seq a _ => a
  | c => c

def goIn : Code → Code
  | .block _ c => c
  | .loop c => c
  | c => c

noncomputable def rbody : Code := Tryd.f11.body.getD .skip

noncomputable def rloop : Code := goIn (goR (goR (goR (goR (goR rbody)))))

noncomputable def rB : Code := goIn (goIn rloop)

noncomputable def rP1 : Code := goL rB

noncomputable def rP2 : Code := goL (goR rB)

noncomputable def rP3 : Code := goL (goR (goR rB))

noncomputable def rP4 : Code := goL (goR (goR (goR rB)))

noncomputable def rT : Code := goR (goR (goR (goR rB)))

noncomputable def rT1 : Code := goL rT

noncomputable def rT2 : Code := goL (goR rT)

noncomputable def rSW : Code := goL (goR (goR rT))

noncomputable def rT3 : Code := goR (goR (goR rT))

set_option maxRecDepth 100000 in
/-- The frame of Scan's round: the tokens, the marks, the place, the token's block, its end; the rest may be anything. -/
def RF (S : ByteArray) (o m iv t9 k10 : Value) (us : Nat → Value) : Act :=
  { tmps := List.toArray (.string S :: undef :: .slice none 0 0 :: .int .i64 0 :: .int .i64 0 :: o :: m :: iv :: us 8 :: t9 :: k10 :: us 11 :: us 12 :: us 13 :: us 14 :: us 15 :: us 16 :: us 17 :: us 18 :: us 19 :: us 20 :: us 21 :: us 22 :: us 23 :: us 24 :: us 25 :: us 26 :: us 27 :: us 28 :: us 29 :: us 30 :: us 31 :: us 32 :: us 33 :: us 34 :: us 35 :: us 36 :: us 37 :: us 38 :: us 39 :: us 40 :: us 41 :: us 42 :: us 43 :: us 44 :: us 45 :: us 46 :: us 47 :: us 48 :: us 49 :: us 50 :: us 51 :: us 52 :: us 53 :: us 54 :: us 55 :: us 56 :: us 57 :: us 58 :: us 59 :: us 60 :: us 61 :: us 62 :: us 63 :: us 64 :: us 65 :: us 66 :: us 67 :: us 68 :: us 69 :: us 70 :: us 71 :: us 72 :: us 73 :: us 74 :: us 75 :: us 76 :: us 77 :: us 78 :: us 79 :: us 80 :: us 81 :: us 82 :: us 83 :: us 84 :: us 85 :: us 86 :: us 87 :: us 88 :: us 89 :: us 90 :: us 91 :: us 92 :: us 93 :: us 94 :: us 95 :: us 96 :: us 97 :: us 98 :: us 99 :: us 100 :: us 101 :: us 102 :: us 103 :: us 104 :: us 105 :: us 106 :: us 107 :: us 108 :: us 109 :: us 110 :: us 111 :: us 112 :: us 113 :: us 114 :: us 115 :: us 116 :: us 117 :: us 118 :: us 119 :: us 120 :: us 121 :: us 122 :: us 123 :: us 124 :: us 125 :: us 126 :: us 127 :: us 128 :: us 129 :: us 130 :: us 131 :: us 132 :: us 133 :: us 134 :: us 135 :: us 136 :: us 137 :: us 138 :: us 139 :: us 140 :: us 141 :: us 142 :: us 143 :: us 144 :: us 145 :: us 146 :: us 147 :: us 148 :: us 149 :: us 150 :: us 151 :: us 152 :: us 153 :: us 154 :: us 155 :: us 156 :: us 157 :: us 158 :: us 159 :: us 160 :: us 161 :: us 162 :: us 163 :: us 164 :: us 165 :: us 166 :: us 167 :: us 168 :: us 169 :: us 170 :: us 171 :: us 172 :: us 173 :: us 174 :: us 175 :: us 176 :: us 177 :: us 178 :: us 179 :: us 180 :: us 181 :: us 182 :: us 183 :: us 184 :: us 185 :: us 186 :: us 187 :: us 188 :: us 189 :: us 190 :: us 191 :: us 192 :: us 193 :: us 194 :: us 195 :: us 196 :: us 197 :: us 198 :: us 199 :: us 200 :: us 201 :: us 202 :: us 203 :: us 204 :: us 205 :: us 206 :: us 207 :: us 208 :: us 209 :: us 210 :: us 211 :: []), defers := [] }

theorem RF.mk {S : ByteArray} {o m iv t9 k10 : Value} {a' : Act} (us : Nat → Value) (_hu : us = fun k => a'.tmps.getD k undef) (h : a' = RF S o m iv t9 k10 us) : ∃ us, a' = RF S o m iv t9 k10 us := ⟨us, h⟩

/-- A piece of code goes on, goes on with the next round, or returns. -/
def Goes (c : Code) (a : Act) (w : World) (N X Rt : Act → World → Prop) : Prop :=
  ∀ Q : Exit → Act → World → Prop, (∀ a w, N a w → Q .normal a w) → (∀ a w, X a w → Q (.exit 1) a w) → (∀ a w, Rt a w → Q .ret a w) → c.wp Tryd.prog Q a w

theorem Goes.seq {x y : Code} {a : Act} {w : World} {M N X Rt : Act → World → Prop} (h1 : Goes x a w M X Rt) (h2 : ∀ a w, M a w → Goes y a w N X Rt) : Goes (.seq x y) a w N X Rt :=
  fun Q hN hX hR => wp_seq (h1 _ (fun a w h => h2 a w h Q hN hX hR) hX hR)

theorem Goes.mono {x : Code} {a : Act} {w : World} {N X Rt N' X' Rt' : Act → World → Prop} (h : Goes x a w N X Rt) (h1 : ∀ a w, N a w → N' a w) (h2 : ∀ a w, X a w → X' a w) (h3 : ∀ a w, Rt a w → Rt' a w) : Goes x a w N' X' Rt' :=
  fun Q hN hX hR => h Q (fun a w k => hN a w (h1 a w k)) (fun a w k => hX a w (h2 a w k)) (fun a w k => hR a w (h3 a w k))

def Nev (_ : Act) (_ : World) : Prop := False

theorem Nev.any {P : Act → World → Prop} : ∀ a w, Nev a w → P a w := fun _ _ h => h.elim

/-- What Scan returns by. -/
def Rtn (w : World) (R : List Tk × Int × Int) (a : Act) (w' : World) : Prop :=
  ∃ v, a.tmps.getD 2 undef = v ∧ a.tmps.getD 3 undef = .int .i64 R.2.1 ∧ a.tmps.getD 4 undef = .int .i64 R.2.2 ∧ a.defers = [] ∧ To w' w.heap.size v R.1 ∧ Below w.heap.size w w'

end Go.Proofs.YtjkcmcefmciinaaDoor
