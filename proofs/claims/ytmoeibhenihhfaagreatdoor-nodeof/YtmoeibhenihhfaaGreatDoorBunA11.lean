/- Put together by a program out of these texts of mine: PRules0. -/
import Derived.Test.YtmoeibhenihhfaaGreatDoorBunA10

/- The rules of kinds that the program makes: what the table that node.rulesOfKinds answers asks. -/
namespace Go.Proofs.YtmoeibhenihhfaaGreatDoor
open Go.RowKit
set_option linter.unusedVariables false
set_option linter.unusedSimpArgs false

def pkOneof (l : List Tn) : Bool := l.all pkOne

def pkReserved (l : List Tn) : Bool := pkSome 14 l || pkSome 15 l

def rl1 : Rl := ⟨(some pxSyntax), 0, 0, false, 0, false, (some pkFile)⟩

def rl2 : Rl := ⟨(some pxPath), 0, 0, false, 1, false, none⟩

def rl3 : Rl := ⟨(some pxFull), 0, 0, false, 0, false, none⟩

def rl4 : Rl := ⟨none, 0, 0, false, 0, false, (some pkOption)⟩

def rl5 : Rl := ⟨(some pxIdent), 0, 0, false, 0, true, (some (fun l => l.all fun t => [9, 10, 5, 6, 7, 12, 13, 11, 4].contains t.kind))⟩

def rl6 : Rl := ⟨(some pxIdent), 0, 0, false, 0, true, (some (fun l => l.all fun t => [16, 4].contains t.kind))⟩

def rl7 : Rl := ⟨(some pxNamed), 0, 0, false, 0, false, (some (fun l => l.all fun t => [9].contains t.kind))⟩

def rl8 : Rl := ⟨(some pxIdent), 0, 0, false, 0, true, (some (fun l => l.all fun t => [17, 4].contains t.kind))⟩

def rl9 : Rl := ⟨(some pxIdent), 0, 2147483647, false, 3, true, (some (ptyp 1))⟩

def rl10 : Rl := ⟨(some pxIdent), 0, 2147483647, false, 0, true, (some pkMap)⟩

def rl11 : Rl := ⟨(some pxIdent), 0, 0, false, 0, true, (some pkOneof)⟩

def rl12 : Rl := ⟨none, 0, 0, false, 0, false, (some (pkSome 14))⟩

def rl13 : Rl := ⟨none, 0, 0, false, 0, false, (some pkReserved)⟩

def rl14 : Rl := ⟨none, 0, 2147483647, true, 0, false, none⟩

def rl15 : Rl := ⟨(some pxIdent), 0, 0, false, 0, false, none⟩

def rl16 : Rl := ⟨(some pxValue), (-2147483648), 2147483647, false, 0, true, (some (fun l => l.all fun t => [4].contains t.kind))⟩

def rl17 : Rl := ⟨(some pxIdent), 0, 0, false, 3, true, (some (ptyp 2))⟩

def rl18 : Rl := ⟨(some pxType), 0, 0, false, 0, false, none⟩

def rl19 : Rl := ⟨(some pxPart), 0, 0, false, 1, false, none⟩

def rl20 : Rl := ⟨(some pxInt), 0, 0, false, 0, false, none⟩

def rl21 : Rl := ⟨(some pxIdent), 0, 0, false, 0, false, none⟩

def rl22 : Rl := ⟨(some pxStr), 0, 0, false, 0, false, none⟩

def rl23 : Rl := ⟨none, 0, 0, false, 0, false, (some (fun l => l.all fun t => [24].contains t.kind))⟩

def rl24 : Rl := ⟨(some pxPart), 0, 0, false, 1, false, (some pkEntry)⟩

/-- The rules, from the first kind on. -/
def rls : List Rl := [rl1, rl2, rl3, rl4, rl5, rl6, rl7, rl8, rl9, rl10, rl11, rl12, rl13, rl14, rl15, rl16, rl17, rl18, rl19, rl20, rl21, rl22, rl23, rl24]

def rtab (g : Nat) : Nat → Sk
  | 0 => .rule rl1
  | 1 => .rule rl2
  | 2 => .rule rl3
  | 3 => .rule rl4
  | 4 => .val (.func (.func 26) #[] #[])
  | 5 => .ints [9, 10, 5, 6, 7, 12, 13, 11, 4]
  | 6 => .ask (fun l => l.all fun t => [9, 10, 5, 6, 7, 12, 13, 11, 4].contains t.kind)
  | 7 => .rule rl5
  | 8 => .val (.func (.func 26) #[] #[])
  | 9 => .ints [16, 4]
  | 10 => .ask (fun l => l.all fun t => [16, 4].contains t.kind)
  | 11 => .rule rl6
  | 12 => .ints [9]
  | 13 => .ask (fun l => l.all fun t => [9].contains t.kind)
  | 14 => .rule rl7
  | 15 => .val (.func (.func 26) #[] #[])
  | 16 => .ints [17, 4]
  | 17 => .ask (fun l => l.all fun t => [17, 4].contains t.kind)
  | 18 => .rule rl8
  | 19 => .val (.func (.func 26) #[] #[])
  | 20 => .ask (ptyp 1)
  | 21 => .rule rl9
  | 22 => .val (.func (.func 26) #[] #[])
  | 23 => .rule rl10
  | 24 => .val (.func (.func 26) #[] #[])
  | 25 => .rule rl11
  | 26 => .ask (pkSome 14)
  | 27 => .rule rl12
  | 28 => .rule rl13
  | 29 => .rule rl14
  | 30 => .val (.func (.func 26) #[] #[])
  | 31 => .rule rl15
  | 32 => .ints [4]
  | 33 => .ask (fun l => l.all fun t => [4].contains t.kind)
  | 34 => .val (.func (.func 44) #[] #[.pointer (some ⟨g + 1, 0, none⟩)])
  | 35 => .rule rl16
  | 36 => .val (.func (.func 26) #[] #[])
  | 37 => .ask (ptyp 2)
  | 38 => .rule rl17
  | 39 => .rule rl18
  | 40 => .val (.func (.func 28) #[] #[])
  | 41 => .rule rl19
  | 42 => .rule rl20
  | 43 => .val (.func (.func 26) #[] #[])
  | 44 => .rule rl21
  | 45 => .rule rl22
  | 46 => .ints [24]
  | 47 => .ask (fun l => l.all fun t => [24].contains t.kind)
  | 48 => .rule rl23
  | 49 => .val (.func (.func 28) #[] #[])
  | 50 => .rule rl24
  | 51 => .all rls
  | _ => .val undef

def rF (g : Nat) (us : Nat → Value) : Act := { tmps := (.pointer (some ⟨g, 0, none⟩) :: .pointer (some ⟨g + 1, 0, none⟩) :: .func (.func 28) #[] #[] :: us 3 :: us 4 :: us 5 :: us 6 :: us 7 :: us 8 :: us 9 :: us 10 :: us 11 :: us 12 :: us 13 :: us 14 :: us 15 :: us 16 :: us 17 :: us 18 :: us 19 :: us 20 :: us 21 :: us 22 :: us 23 :: us 24 :: us 25 :: us 26 :: us 27 :: us 28 :: us 29 :: us 30 :: us 31 :: us 32 :: us 33 :: us 34 :: us 35 :: us 36 :: us 37 :: us 38 :: us 39 :: us 40 :: us 41 :: us 42 :: us 43 :: us 44 :: us 45 :: us 46 :: us 47 :: us 48 :: us 49 :: us 50 :: us 51 :: us 52 :: us 53 :: us 54 :: []).toArray, defers := [] }

/-- The cells that nobody has written. -/
def rzero : List Value := (List.replicate 25 zrl).flatten

def rX (g : Nat) (L : Nat → Bool) (us : Nat → Value) (w : World) : Prop :=
  w.heap[g + 1]? = some (.cells #[.func (.func 26) #[] #[]] 26 (0, 0)) ∧ (L 52 = false → w.heap[g]? = some (.cells rzero.toArray 37 (0, 0))) ∧ (L 52 = true → ∃ cs, w.heap[g]? = some (.cells (zrl ++ cs).toArray 37 (0, 0)) ∧ AllIs (g + 1) w rls cs)

/-- What holds between two operations. -/
def rI (W : World) (L : Nat → Bool) (a : Act) (w : World) : Prop := Ist (W.heap.size + 1) W (rF W.heap.size) (· + 3) (rtab W.heap.size) (rX W.heap.size) L a w

theorem rfin {W : World} {L : Nat → Bool} {us : Nat → Value} {w w' : World} (hB : Below W.heap.size W w) (hS : ∀ i, L i = true → (rtab W.heap.size i).holds (W.heap.size + 1) w (us (i + 3))) (hX : rX W.heap.size L us w)
    (i : Nat) (hi : i ≠ 52) (v : Value) (a' : Act) (ha : a' = rF W.heap.size (upv us (i + 3) v)) (hb : Below w.heap.size w w') (hv : (rtab W.heap.size i).holds (W.heap.size + 1) w' v) :
    rI W (fun k => if k = i then true else L k) a' w' := by
  refine Ist.put (F := rF W.heap.size) (dst := (· + 3)) (fun i j h => by simpa using h) hS i v a' ha (Sin.of hb (Nat.le_refl _)) (hB.trans (hb.mono hB.size)) hv ?_
  obtain ⟨h1, h2, h3⟩ := hX
  refine ⟨(hb.block _ (one_lt h1)).trans h1, fun h => ?_, fun h => ?_⟩
  · have h' : L 52 = false := by simpa [upb, Ne.symm hi] using h
    exact (hb.block _ (one_lt (h2 h'))).trans (h2 h')
  · have h' : L 52 = true := by simpa [upb, Ne.symm hi] using h
    obtain ⟨cs, g1, g2⟩ := h3 h'
    exact ⟨cs, (hb.block _ (one_lt g1)).trans g1, AllIs.sin (Sin.of hb (Nat.le_refl _)) g2⟩

/-- That an operation, once it may come up, leaves what must hold. -/
def rOk (W : World) (i : Nat) (o : Oper) : Prop :=
  ∀ (OPS : Array Oper) (Q : Exit → Act → World → Prop) (L : Nat → Bool) (us : Nat → Value) (w : World), Below W.heap.size W w → (∀ i, L i = true → (rtab W.heap.size i).holds (W.heap.size + 1) w (us (i + 3))) → rX W.heap.size L us w → OPS[i]? = some o → L i = false → (∀ e ∈ o.after, Region.binds .any e = true → L e.on = true) →
    wpOp Tryz.prog OPS Q i (fun a' w' => rI W (fun k => if k = i then true else L k) a' w') (rF W.heap.size us) w

theorem askN_fun {B : Nat} {w : World} (k : FuncId) (hin : Goin k) (p : Tn → Bool) (h : ∀ (V : World) (t : Tn), TTab V → TnOk V t → TnShort t → Calls Tryz.prog k #[t.val] V fun e V' => e = .returned (.bool (p t)) ∧ Below V.heap.size V V') : AskN B w (.func (.func k) #[] #[]) p :=
  ⟨k, #[], rfl, hin, fun V t _ hT ht hs => h V t hT ht hs⟩

theorem askL_fun {B : Nat} {w : World} (k : FuncId) (hin : Goin k) (p : List Tn → Bool) (h : ∀ (V : World) (ad : Option Addr) (cap : Nat) (kids : List Tn), TTab V → Kl V ad cap kids → (∀ (i : Nat) (t : Tn), kids[i]? = some t → TnShort t) → Calls Tryz.prog k #[.slice ad kids.length cap] V fun e V' => e = .returned (.bool (p kids)) ∧ Below V.heap.size V V') : AskL B w (.func (.func k) #[] #[]) p :=
  ⟨k, #[], rfl, hin, fun V ad cap kids _ hT hk hs => h V ad cap kids hT hk hs⟩

theorem pxIdent_ask (B : Nat) (w : World) : AskN B w (.func (.func 26) #[] #[]) pxIdent := askN_fun _ Tryz.call26 _ (fun V t hT ht hs => pxIdent_any hT ht hs)

theorem pxPart_ask (B : Nat) (w : World) : AskN B w (.func (.func 28) #[] #[]) pxPart := askN_fun _ Tryz.call28 _ (fun V t hT ht hs => pxPart_any hT ht hs)

theorem pxSyntax_ask (B : Nat) (w : World) : AskN B w (.func (.func 31) #[] #[]) pxSyntax := askN_fun _ Tryz.call31 _ (fun V t hT ht hs => pxSyntax_any hT ht hs)

theorem pxPath_ask (B : Nat) (w : World) : AskN B w (.func (.func 33) #[] #[]) pxPath := askN_fun _ Tryz.call33 _ (fun V t hT ht hs => pxPath_any hT ht hs)

theorem pxFull_ask (B : Nat) (w : World) : AskN B w (.func (.func 34) #[] #[]) pxFull := askN_fun _ Tryz.call34 _ (fun V t hT ht hs => pxFull_any hT ht hs)

theorem pxNamed_ask (B : Nat) (w : World) : AskN B w (.func (.func 37) #[] #[]) pxNamed := askN_fun _ Tryz.call37 _ (fun V t hT ht hs => pxNamed_any hT ht hs)

theorem pxType_ask (B : Nat) (w : World) : AskN B w (.func (.func 45) #[] #[]) pxType := askN_fun _ Tryz.call45 _ (fun V t hT ht hs => pxType_any hT ht hs)

theorem pxInt_ask (B : Nat) (w : World) : AskN B w (.func (.func 47) #[] #[]) pxInt := askN_fun _ Tryz.call47 _ (fun V t hT ht hs => pxInt_any hT ht hs)

theorem pxStr_ask (B : Nat) (w : World) : AskN B w (.func (.func 49) #[] #[]) pxStr := askN_fun _ Tryz.call49 _ (fun V t hT ht hs => pxStr_any hT ht hs)

theorem pkFile_ask (B : Nat) (w : World) : AskL B w (.func (.func 32) #[] #[]) pkFile := askL_fun _ Tryz.call32 _ (fun V ad cap kids hT hk hs => pfile_any hT hk hs)

theorem pkOption_ask (B : Nat) (w : World) : AskL B w (.func (.func 35) #[] #[]) pkOption := askL_fun _ Tryz.call35 _ (fun V ad cap kids hT hk hs => poption_any hT hk hs)

theorem pkMap_ask (B : Nat) (w : World) : AskL B w (.func (.func 40) #[] #[]) pkMap := askL_fun _ Tryz.call40 _ (fun V ad cap kids hT hk hs => pmap_any hT hk hs)

theorem pkOneof_ask (B : Nat) (w : World) : AskL B w (.func (.func 41) #[] #[]) pkOneof := askL_fun _ Tryz.call41 _ (fun V ad cap kids hT hk hs => poneof_any hk)

theorem pkReserved_ask (B : Nat) (w : World) : AskL B w (.func (.func 43) #[] #[]) pkReserved := askL_fun _ Tryz.call43 _ (fun V ad cap kids hT hk hs => preserved_any hT hk hs)

theorem pkEntry_ask (B : Nat) (w : World) : AskL B w (.func (.func 50) #[] #[]) pkEntry := askL_fun _ Tryz.call50 _ (fun V ad cap kids hT hk hs => pentry7_any hk)

theorem pxValue_ask {B g : Nat} {w : World} (hB : B ≤ g) (hg : w.heap[g]? = some (.cells #[.func (.func 26) #[] #[]] 26 (0, 0))) : AskN B w (.func (.func 44) #[] #[.pointer (some ⟨g, 0, none⟩)]) pxValue :=
  ⟨_, _, rfl, Tryz.call44, fun V t hV hT ht hs => pxValue_any g ((hV.block _ hB (one_lt hg)).trans hg) hT ht hs⟩

end Go.Proofs.YtmoeibhenihhfaaGreatDoor
