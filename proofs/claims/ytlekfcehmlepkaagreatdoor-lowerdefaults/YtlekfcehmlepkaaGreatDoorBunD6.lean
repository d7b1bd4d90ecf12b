/- Put together by a program out of these texts of mine: TChk2, GMath, GMem, GTree. -/
import Derived.Maps.AppendAt
import Derived.Test.YtlekfcehmlepkaaGreatDoorBunD5

namespace Go.Proofs.YtlekfcehmlepkaaGreatDoor
open Go.RowKit
set_option linter.unusedVariables false
set_option linter.unusedSimpArgs false

set_option maxHeartbeats 1000000 in
theorem rdocd_any (k : Int) (w : World) (hk : i64b k) :
  Calls Tryz.prog 109 #[.int .i64 k] w fun e w' => e = .returned (.bool (tdocd k)) ∧ w = w' := by
 obtain ⟨hk0,hk1⟩ := hk
 rcases (show k < 5 ∨ k = 5 ∨ k = 6 ∨ k = 7 ∨ (8 ≤ k ∧ k ≤ 11) ∨ (11 < k ∧ k < 16) ∨ k = 16 ∨ k = 17 ∨ 17 < k by omega) with h | rfl | rfl | rfl | h | h | rfl | rfl | h
 ·have E : Hid (tdocd k = false) := decide_eq_false (by omega)
  go_enter Tryz.func109,Tryz.ntmps109
  go_wp2
  go_ret
  exact ⟨by rw [E.out]; first | rfl | (simp <;> omega),rfl⟩
 ·have E : Hid (tdocd 5 = true) := rfl
  go_enter Tryz.func109,Tryz.ntmps109
  go_wp2
  go_ret
  exact ⟨by rw [E.out]; first | rfl | (simp <;> omega),rfl⟩
 ·have E : Hid (tdocd 6 = true) := rfl
  go_enter Tryz.func109,Tryz.ntmps109
  go_wp2
  go_ret
  exact ⟨by rw [E.out]; first | rfl | (simp <;> omega),rfl⟩
 ·have E : Hid (tdocd 7 = false) := rfl
  go_enter Tryz.func109,Tryz.ntmps109
  go_wp2
  go_ret
  exact ⟨by rw [E.out]; first | rfl | (simp <;> omega),rfl⟩
 ·have E : Hid (tdocd k = true) := decide_eq_true (by omega)
  go_enter Tryz.func109,Tryz.ntmps109
  go_wp2
  go_ret
  exact ⟨by rw [E.out]; first | rfl | (simp <;> omega),rfl⟩
 ·have E : Hid (tdocd k = false) := decide_eq_false (by omega)
  go_enter Tryz.func109,Tryz.ntmps109
  go_wp2
  go_ret
  exact ⟨by rw [E.out]; first | rfl | (simp <;> omega),rfl⟩
 ·have E : Hid (tdocd 16 = true) := rfl
  go_enter Tryz.func109,Tryz.ntmps109
  go_wp2
  go_ret
  exact ⟨by rw [E.out]; first | rfl | (simp <;> omega),rfl⟩
 ·have E : Hid (tdocd 17 = true) := rfl
  go_enter Tryz.func109,Tryz.ntmps109
  go_wp2
  go_ret
  exact ⟨by rw [E.out]; first | rfl | (simp <;> omega),rfl⟩
 ·have E : Hid (tdocd k = false) := decide_eq_false (by omega)
  go_enter Tryz.func109,Tryz.ntmps109
  go_wp2
  go_ret
  exact ⟨by rw [E.out]; first | rfl | (simp <;> omega),rfl⟩

end Go.Proofs.YtlekfcehmlepkaaGreatDoor

namespace Go.Proofs.YtlekfcehmlepkaaGreatDoor
set_option linter.unusedSimpArgs false
set_option linter.unusedVariables false

structure Tq where
 kind : Int
 text : List Int
 n : Int
 pos : Int
 doc : List Int
deriving DecidableEq

def Tq.none : Tq := ⟨0,[],0,0,[]⟩

structure Gs where
 i : Nat
 op : Int
 pa : Int
 e : Int
 n : Int

inductive Pn where
 | mk (kind : Int) (text : List Int) (n m a pos : Int) (doc : List Int) (kids : List Pn) : Pn

def w64 (x : Int) : Int := Go.RowKit.wrap64 x

def gnow (ts : List Tq) (s : Gs) : Tq := ts.getD s.i Tq.none

def gfail (ts : List Tq) (c : Int) (s : Gs) : Gs := if s.e = 0 then { s with e := c,pa := (gnow ts s).pos } else s

def gnext (ts : List Tq) (s : Gs) : Gs := if s.e = 0 ∧ s.i + 1 < ts.length then { s with i := s.i + 1 } else s

def gis (ts : List Tq) (t : List Int) (s : Gs) : Bool := decide (s.e = 0 ∧ (gnow ts s).kind = 4 ∧ (gnow ts s).text = t)

def gisw (ts : List Tq) (t : List Int) (s : Gs) : Bool := decide (s.e = 0 ∧ (gnow ts s).kind = 1 ∧ (gnow ts s).text = t)

def gsign (ts : List Tq) (t : List Int) (s : Gs) : Gs := if gis ts t s = true then gnext ts s else s

def gword (ts : List Tq) (t : List Int) (s : Gs) : Gs := if gisw ts t s = true then gnext ts s else s

def gwant (ts : List Tq) (t : List Int) (s : Gs) : Gs := if gis ts t s = true then gnext ts s else gfail ts 80 s

def gbrace (ts : List Tq) (s : Gs) : Gs :=
 let s1 := gwant ts [123] (if gis ts [123] s = true ∧ s.op = 30 then gfail ts 81 s else s)
 { s1 with op := s1.op + 1 }

def gmade (ts : List Tq) (kind : Int) (s : Gs) : Gs :=
 let s1 : Gs := { s with n := w64 (s.n + 1) }
 if tdocd kind = true ∧ 10000 < (gnow ts s).doc.length then gfail ts 80 s1 else s1

def gnameS (ts : List Tq) (s : Gs) : Gs :=
 let t := gnow ts s
 gnext ts (if t.kind ≠ 1 ∨ nident t.text = false then gfail ts 80 s else s)

def gtextS (ts : List Tq) (most : Int) (s : Gs) : Gs :=
 let t := gnow ts s
 gnext ts (if t.kind ≠ 3 ∨ most < t.text.length then gfail ts 80 s else s)

def gintS (ts : List Tq) (most : Int) (s : Gs) : Gs :=
 let t := gnow ts s
 gnext ts (if t.kind ≠ 2 ∨ most < t.n then gfail ts 80 s else s)

def gfl (ts : List Tq) : Nat → Gs → List Int → List Int × Gs
 | 0,s,r => (r,s)
 | f + 1,s,r => if gis ts [46] s = true then gfl ts f (gnameS ts (gnext ts s)) (r ++ [46] ++ (gnow ts (gnext ts s)).text) else (r,s)

def gfull (ts : List Tq) (ahead : Bool) (s : Gs) : List Int × Gs :=
 let dot := ahead && gis ts [46] s
 let s0 := if dot = true then gnext ts s else s
 let r := gfl ts ts.length (gnameS ts s0) (gnow ts s0).text
 ((if dot = true then [46] else []) ++ r.1,if r.2.e = 0 ∧ 1000 < r.1.length then gfail ts 80 { r.2 with i := s0.i } else r.2)

def gtyped (ts : List Tq) (plain name : Bool) (s : Gs) : Pn × Gs :=
 let s0 := gmade ts 18 s
 let r := gfull ts true s0
 let k := ttype r.1
 (.mk 18 r.1 0 0 0 (gnow ts s).pos [] [],if r.2.e = 0 ∧ (k.1 = false ∨ (k.2 = true ∧ name = false) ∨ (k.2 = false ∧ plain = false)) then gfail ts 80 { r.2 with i := s0.i } else r.2)

end Go.Proofs.YtlekfcehmlepkaaGreatDoor

namespace Go.Proofs.YtlekfcehmlepkaaGreatDoor
open Go.RowKit
set_option linter.unusedVariables false
set_option linter.unusedSimpArgs false

def Tq.cells (t : Tq) : List Value := [.int .i64 t.kind,.string (strOfNums t.text),.int .u64 t.n,.int .i64 t.pos,.string (strOfNums t.doc)]

def Tq.ok (t : Tq) : Prop := i64b t.kind ∧ byts t.text ∧ (0 ≤ t.n ∧ t.n ≤ 18446744073709551615) ∧ i64b t.pos ∧ byts t.doc ∧ t.text.length ≤ 5000 ∧ t.doc.length ≤ 1000000

def gsum : List Tq → Nat
 | [] => 0
 | t :: r => t.text.length + 1 + gsum r

def Tqs (w : World) (g : Nat) (a : Option Addr) (len cap : Nat) (ts : List Tq) : Prop :=
 ts.length = len ∧ (len : Int) ≤ 1000000 ∧ len ≤ cap ∧ (a = none → cap = 0) ∧ ((∀ t ∈ ts,t.ok) ∧ gsum ts ≤ 90000) ∧
  (0 < len → ∃ b off,a = some ⟨b,off,none⟩ ∧ b < w.heap.size ∧ b < g ∧ ∀ (i : Nat) (t : Tq),ts[i]? = some t → ∀ (j : Nat) (u : Value),t.cells[j]? = some u → w.cell? ⟨b,off + i * 5 + j,none⟩ = some u)

theorem grown_cell {w w' : World} {g : Nat} (hg : w.grownBy w' (some g)) {p : Addr} (hlt : p.block < w.heap.size) (hne : p.block ≠ g) : w'.cell? p = w.cell? p :=
 World.cell?_of_block (hg.block p.block hlt (by simpa using hne))

theorem Tqs.grown {w w' : World} {g : Nat} {a : Option Addr} {len cap : Nat} {ts : List Tq} (h : Tqs w g a len cap ts) (hg : w.grownBy w' (some g)) : Tqs w' g a len cap ts := by
 obtain ⟨h1,h2,h3,h4,h5,h6⟩ := h
 refine ⟨h1,h2,h3,h4,h5,fun hp => ?_⟩
 obtain ⟨b,off,rfl,hlt,hne,hc⟩ := h6 hp
 exact ⟨b,off,rfl,Nat.lt_of_lt_of_le hlt hg.size,hne,fun i t hi j u hj => (grown_cell hg hlt (show b ≠ g by omega)).trans (hc i t hi j u hj)⟩

def gcells (a : Option Addr) (len cap : Nat) (s : Gs) : Array Value := #[.slice a len cap,.int .i64 (s.i : Int),.int .i64 s.op,.int .i64 s.pa,.int .i64 s.e,.int .i64 s.n]

def Gb (w : World) (g : Nat) (a : Option Addr) (len cap : Nat) (s : Gs) : Prop := w.heap[g]? = some (.cells (gcells a len cap s) 87 (0,0))

structure Gm (w : World) (g : Nat) (a : Option Addr) (len cap : Nat) (ts : List Tq) (s : Gs) : Prop where
 blk : Gb w g a len cap s
 tok : Tqs w g a len cap ts
 lt : s.i < len
 last : (ts.getD (len - 1) Tq.none).kind = 0
 op0 : 0 ≤ s.op
 op1 : s.op ≤ 40
 pa : i64b s.pa
 e0 : 0 ≤ s.e
 e1 : s.e ≤ 1000
 n : i64b s.n

theorem Gb.size {w : World} {g : Nat} {a : Option Addr} {len cap : Nat} {s : Gs} (h : Gb w g a len cap s) : g < w.heap.size := (Array.getElem?_eq_some_iff.1 h).1

theorem Gb.cells {w : World} {g : Nat} {a : Option Addr} {len cap : Nat} {s : Gs} (h : Gb w g a len cap s) :
  w.cell? ⟨g,0,none⟩ = some (.slice a len cap) ∧ w.cell? ⟨g,1,none⟩ = some (.int .i64 (s.i : Int)) ∧ w.cell? ⟨g,2,none⟩ = some (.int .i64 s.op) ∧ w.cell? ⟨g,3,none⟩ = some (.int .i64 s.pa) ∧ w.cell? ⟨g,4,none⟩ = some (.int .i64 s.e) ∧ w.cell? ⟨g,5,none⟩ = some (.int .i64 s.n) := by
 refine ⟨?_,?_,?_,?_,?_,?_⟩ <;> simp [World.cell?,show _ = _ from h,gcells]

theorem grown_set {w : World} {g : Nat} (j : Nat) (u : Value) : w.grownBy (w.setCell ⟨g,j,none⟩ u) (some g) :=
 ⟨rfl,rfl,rfl,by simp [World.setCell],fun k _ hne => Below.heap_setCell w ⟨g,j,none⟩ u k (fun e => hne (by rw [e]))⟩

theorem grown_of {w w' : World} {row : Option Nat} (hb : Below w.heap.size w w') : w.grownBy w' row := ⟨hb.os,hb.tape,hb.output,hb.size,fun k hk _ => hb.block k hk⟩

theorem grown_trans {w w1 w2 : World} {row : Option Nat} (h1 : w.grownBy w1 row) (h2 : w1.grownBy w2 row) : w.grownBy w2 row :=
 ⟨h2.os.trans h1.os,h2.tape.trans h1.tape,h2.output.trans h1.output,Nat.le_trans h1.size h2.size,fun k hk hne => (h2.block k (Nat.lt_of_lt_of_le hk h1.size) hne).trans (h1.block k hk hne)⟩

theorem Gm.below {w w' : World} {g : Nat} {a : Option Addr} {len cap : Nat} {ts : List Tq} {s : Gs} (h : Gm w g a len cap ts s) (hb : Below w.heap.size w w') : Gm w' g a len cap ts s :=
 ⟨(hb.block g h.blk.size).trans h.blk,h.tok.grown (grown_of hb),h.lt,h.last,h.op0,h.op1,h.pa,h.e0,h.e1,h.n⟩

theorem Gb.free {w : World} {g : Nat} {a : Option Addr} {len cap : Nat} {s : Gs} (h : Gb w g a len cap s) (j : Nat) : w.frozen? ⟨g,j,none⟩ = false := by
 simp [World.frozen?,show _ = _ from h]

theorem Gm.turn {w w' : World} {g : Nat} {a : Option Addr} {len cap : Nat} {ts : List Tq} {s s' : Gs} (h : Gm w g a len cap ts s) (hg : w.grownBy w' (some g)) (hb : Gb w' g a len cap s')
  (hi : s'.i < len) (o0 : 0 ≤ s'.op) (o1 : s'.op ≤ 40) (p : i64b s'.pa) (e0 : 0 ≤ s'.e) (e1 : s'.e ≤ 1000) (n : i64b s'.n) : Gm w' g a len cap ts s' :=
 ⟨hb,h.tok.grown hg,hi,h.last,o0,o1,p,e0,e1,n⟩

theorem Gm.now_ok {w : World} {g : Nat} {a : Option Addr} {len cap : Nat} {ts : List Tq} {s : Gs} (h : Gm w g a len cap ts s) : (gnow ts s).ok := by
 have hl : s.i < ts.length := by rw [h.tok.1]; exact h.lt
 unfold gnow
 rw [List.getD,List.getElem?_eq_getElem hl]
 exact h.tok.2.2.2.2.1.1 _ (List.getElem_mem hl)

def Tq.val (t : Tq) : Value := .agg t.cells.toArray

theorem set_heap' {w : World} {g : Nat} {c : Array Value} {e : TypeId} (h : w.heap[g]? = some (.cells c e (0,0))) (j : Nat) (u : Value) : (w.setCell ⟨g,j,none⟩ u).heap[g]? = some (.cells (c.setIfInBounds j u) e (0,0)) := by
 simp only [World.setCell,Array.getElem?_modify]
 rw [if_pos trivial,h]
 rfl

theorem tq_ret {fn : Func} {R : Ending → World → Prop} {a : Act} {w : World} {p : Tmp} (h : fn.results = #[.cell p 81]) (g : Nat) (v0 v1 v2 v3 v4 : Value) (hp : a.tmps.getD p undef = .pointer (some ⟨g,0,none⟩))
  (hg : w.heap[g]? = some (.cells #[v0,v1,v2,v3,v4] 81 (0,0))) (hd : a.defers = []) (hR : R (.returned (.agg #[v0,v1,v2,v3,v4])) w) : bodyPost Tryz.prog fn R .ret a w := by
 refine bodyPost_ret (v := .agg #[v0,v1,v2,v3,v4]) ?_ hd hR
 have hp' : a.tmps[p]?.getD undef = .pointer (some ⟨g,0,none⟩) := by simpa using hp
 have hl := run_loadVar_row (P := Tryz.prog) w g 81 81 #[v0,v1,v2,v3,v4] (0,0) _ hg Tryz.underlying81 rfl (by kernel_rfl)
 simp [results,h,hp',asAddr,hl]

theorem nd_ret {fn : Func} {R : Ending → World → Prop} {a : Act} {w : World} {p : Tmp} (h : fn.results = #[.cell p 28]) (g : Nat) (v0 v1 v2 v3 v4 v5 v6 v7 : Value) (hp : a.tmps.getD p undef = .pointer (some ⟨g,0,none⟩))
  (hg : w.heap[g]? = some (.cells #[v0,v1,v2,v3,v4,v5,v6,v7] 28 (0,0))) (hd : a.defers = []) (hR : R (.returned (.agg #[v0,v1,v2,v3,v4,v5,v6,v7])) w) : bodyPost Tryz.prog fn R .ret a w := by
 refine bodyPost_ret (v := .agg #[v0,v1,v2,v3,v4,v5,v6,v7]) ?_ hd hR
 have hp' : a.tmps[p]?.getD undef = .pointer (some ⟨g,0,none⟩) := by simpa using hp
 have hl := run_loadVar_row (P := Tryz.prog) w g 28 28 #[v0,v1,v2,v3,v4,v5,v6,v7] (0,0) _ hg Tryz.underlying28 rfl (by kernel_rfl)
 simp [results,h,hp',asAddr,hl]

theorem grown_alloc {w W : World} {row : Option Nat} (h : w.grownBy W row) (o : Obj) : w.grownBy (W.alloc o) row := grown_trans h (World.grownBy_alloc W o row)

theorem grown_drew {w W : World} {row : Option Nat} (h : w.grownBy W row) (n : Nat) : w.grownBy (W.drewN n) row := ⟨h.os,h.tape,h.output,h.size,h.block⟩

theorem grown_own {w W : World} {g : Nat} (h : w.grownBy W (some g)) (j : Nat) (u : Value) : w.grownBy (W.setCell ⟨g,j,none⟩ u) (some g) := grown_trans h (grown_set j u)

theorem grown_new {w W : World} {row : Option Nat} (h : w.grownBy W row) {b : Nat} (hb : w.heap.size ≤ b) (j : Nat) (u : Value) : w.grownBy (W.setCell ⟨b,j,none⟩ u) row :=
 ⟨h.os,h.tape,h.output,by simpa [World.setCell] using h.size,fun k hk hne => (Below.heap_setCell W ⟨b,j,none⟩ u k (fun e => by simp only at e; omega)).trans (h.block k hk hne)⟩

theorem blk_other {W : World} {g b : Nat} {x : Option Obj} (h : W.heap[g]? = x) (hne : b ≠ g) (j : Nat) (u : Value) : (W.setCell ⟨b,j,none⟩ u).heap[g]? = x :=
 (Below.heap_setCell W ⟨b,j,none⟩ u g (fun e => hne e.symm)).trans h

theorem blk_alloc {W : World} {g : Nat} {x : Obj} (h : W.heap[g]? = some x) (o : Obj) : (W.alloc o).heap[g]? = some x := (heap_alloc_old W o (Array.getElem?_eq_some_iff.1 h).1).trans h

theorem five_put {w : World} {g : Nat} {e : TypeId} {a0 a1 a2 a3 a4 : Value} (h : w.heap[g]? = some (.cells #[a0,a1,a2,a3,a4] e (0,0))) (v0 v1 v2 v3 v4 : Value) :
  (((((w.setCell ⟨g,0,none⟩ v0).setCell ⟨g,1,none⟩ v1).setCell ⟨g,2,none⟩ v2).setCell ⟨g,3,none⟩ v3).setCell ⟨g,4,none⟩ v4).heap[g]? = some (.cells #[v0,v1,v2,v3,v4] e (0,0)) := by
 have h1 := set_heap' h 0 v0
 have h2 := set_heap' h1 1 v1
 have h3 := set_heap' h2 2 v2
 have h4 := set_heap' h3 3 v3
 exact set_heap' h4 4 v4

theorem five_grown {w W : World} {row : Option Nat} (h : w.grownBy W row) {b : Nat} (hb : w.heap.size ≤ b) (v0 v1 v2 v3 v4 : Value) :
  w.grownBy (((((W.setCell ⟨b,0,none⟩ v0).setCell ⟨b,1,none⟩ v1).setCell ⟨b,2,none⟩ v2).setCell ⟨b,3,none⟩ v3).setCell ⟨b,4,none⟩ v4) row :=
 grown_new (grown_new (grown_new (grown_new (grown_new h hb 0 v0) hb 1 v1) hb 2 v2) hb 3 v3) hb 4 v4

theorem five_other {W : World} {g b : Nat} {x : Option Obj} (h : W.heap[g]? = x) (hne : b ≠ g) (v0 v1 v2 v3 v4 : Value) :
  (((((W.setCell ⟨b,0,none⟩ v0).setCell ⟨b,1,none⟩ v1).setCell ⟨b,2,none⟩ v2).setCell ⟨b,3,none⟩ v3).setCell ⟨b,4,none⟩ v4).heap[g]? = x :=
 blk_other (blk_other (blk_other (blk_other (blk_other h hne 0 v0) hne 1 v1) hne 2 v2) hne 3 v3) hne 4 v4

theorem tq_fld0 (v0 v1 v2 v3 v4 : Value) (W : World) : (Instr.field 81 (.agg #[v0,v1,v2,v3,v4]) 0).run Tryz.prog W = .ok v0 W := by kernel_rfl

theorem tq_fld1 (v0 v1 v2 v3 v4 : Value) (W : World) : (Instr.field 81 (.agg #[v0,v1,v2,v3,v4]) 1).run Tryz.prog W = .ok v1 W := by kernel_rfl

theorem tq_fld2 (v0 v1 v2 v3 v4 : Value) (W : World) : (Instr.field 81 (.agg #[v0,v1,v2,v3,v4]) 2).run Tryz.prog W = .ok v2 W := by kernel_rfl

theorem tq_fld3 (v0 v1 v2 v3 v4 : Value) (W : World) : (Instr.field 81 (.agg #[v0,v1,v2,v3,v4]) 3).run Tryz.prog W = .ok v3 W := by kernel_rfl

theorem tq_fld4 (v0 v1 v2 v3 v4 : Value) (W : World) : (Instr.field 81 (.agg #[v0,v1,v2,v3,v4]) 4).run Tryz.prog W = .ok v4 W := by kernel_rfl

mutual
def Tn.plain : Tn → Pn
 | .mk k t n m a p d _ _ ks => .mk k t n m a p d (plains ks)
def plains : List Tn → List Pn
 | [] => []
 | t :: r => t.plain :: plains r
end

mutual
def Tn.blocks : Tn → List Nat
 | .mk _ _ _ _ _ _ _ ad _ ks => (match ad with | some x => [x.block] | none => []) ++ blocksL ks
def blocksL : List Tn → List Nat
 | [] => []
 | t :: r => t.blocks ++ blocksL r
end

theorem plains_append : ∀ (a b : List Tn),plains (a ++ b) = plains a ++ plains b
 | [],b => by simp [plains]
 | t :: r,b => by simp [plains,plains_append r b]

theorem plains_len : ∀ (a : List Tn),(plains a).length = a.length
 | [] => by simp [plains]
 | t :: r => by simp [plains,plains_len r]

theorem blocksL_mem : ∀ (l : List Tn) (i : Nat) (t : Tn),l[i]? = some t → ∀ b ∈ t.blocks,b ∈ blocksL l
 | [],i,t,h,_,_ => by simp at h
 | x :: l,0,t,h,b,hb => by
  simp at h
  subst h
  simp [blocksL,hb]
 | x :: l,i + 1,t,h,b,hb => by
  have := blocksL_mem l i t (by simpa using h) b hb
  simp [blocksL,this]

theorem blocksL_all {l : List Tn} {P : Nat → Prop} (h : ∀ t ∈ l,∀ b ∈ t.blocks,P b) : ∀ b ∈ blocksL l,P b := by
 induction l with
 | nil => intro b hb; simp [blocksL] at hb
 | cons t r ih =>
  intro b hb
  simp only [blocksL,List.mem_append] at hb
  rcases hb with hb | hb
  ·exact h t (by simp) b hb
  ·exact ih (fun u hu => h u (by simp [hu])) b hb

theorem TnOk.moved {w w' : World} {row : Option Nat} (hg : w.grownBy w' row) {t : Tn} (h : TnOk w t) : (∀ b ∈ t.blocks,row ≠ some b) → TnOk w' t := by
 induction h with
 | @mk kind text n m a pos doc ad cap kids hkind htext htl hn hm ha hpos hdoc hdl hkl hcap hnone hmem hkids ih =>
  intro hb
  refine .mk hkind htext htl hn hm ha hpos hdoc hdl hkl hcap hnone (fun hp => ?_) (fun i t hi => ih i t hi (fun b hbb => hb b ?_))
  ·obtain ⟨b,off,h1,h2,h3⟩ := hmem hp
   subst h1
   have hne : row ≠ some b := hb b (by simp [Tn.blocks])
   refine ⟨b,off,rfl,Nat.lt_of_lt_of_le h2 hg.size,fun i t hi j u hj => ?_⟩
   have e : w'.cell? ⟨b,off + i * 8 + j,none⟩ = w.cell? ⟨b,off + i * 8 + j,none⟩ := World.cell?_of_block (hg.block b h2 (fun e => hne e.symm))
   exact e.trans (h3 i t hi j u hj)
  ·have := blocksL_mem kids i t hi b hbb
   simp [Tn.blocks,this]

def Ns (w : World) (base : Nat) (v : Value) (ts : List Tn) : Prop :=
 w.ownsRow base 28 8 v ts.length (ts.flatMap Tn.cells) ∧ ∀ t ∈ ts,TnOk w t ∧ ∀ b ∈ t.blocks,base ≤ b ∧ b < w.heap.size ∧ v.ownBlock ≠ some b

theorem Ns.nil (w : World) (base : Nat) : Ns w base (.slice none 0 0) [] := ⟨World.ownsRow_nil _ _ _ _,by simp⟩

theorem Ns.grown {w w' : World} {base : Nat} {v : Value} {ts : List Tn} {row : Option Nat} (h : Ns w base v ts) (hg : w.grownBy w' row) (hr : ∀ r,row = some r → r < base) : Ns w' base v ts := by
 refine ⟨h.1.kept hg ?_,fun t ht => ?_⟩
 ·cases hv : v.ownBlock with
  | none => left; rfl
  | some b =>
   right
   intro e
   have := (h.1.lt b hv).1
   have := hr b e.symm
   omega
 ·obtain ⟨h1,h2⟩ := h.2 t ht
  refine ⟨h1.moved hg (fun b hb e => ?_),fun b hb => ?_⟩
  ·have := (h2 b hb).1
   have := hr b e
   omega
  ·obtain ⟨a1,a2,a3⟩ := h2 b hb
   exact ⟨a1,Nat.lt_of_lt_of_le a2 hg.size,a3⟩

theorem cells8 (t : Tn) : t.cells.length = 8 := by obtain ⟨_,_,_,_,_,_,_,_,_,_⟩ := t; rfl

theorem flat8_len : ∀ (ts : List Tn),(ts.flatMap Tn.cells).length = ts.length * 8
 | [] => by simp
 | t :: r => by simp [flat8_len r,cells8 t]; omega

theorem Tryz.infoNode : (Tryz.prog.info? 28).map (fun i => (i.zero,i.size,i.bytes)) = some (some (.agg #[.int .i64 0,.string { data := #[] },.int .i64 0,.int .i64 0,.int .i64 0,.int .i64 0,.string { data := #[] },.slice none 0 0]),8,96) := by kernel_rfl

theorem Ns.push {w w' : World} {base : Nat} {v v' : Value} {ts : List Tn} {t : Tn} (h : Ns w base v ts) (ht : TnOk w t) (hb : ∀ b ∈ t.blocks,base ≤ b ∧ b < w.heap.size ∧ v.ownBlock ≠ some b)
  (hown : w'.ownsRow base 28 8 v' (ts.length + 1) (ts.flatMap Tn.cells ++ t.cells)) (hg : w.grownBy w' v.ownBlock) (hat : v'.ownBlock = v.ownBlock ∨ v'.ownBlock = some w.heap.size) : Ns w' base v' (ts ++ [t]) := by
 refine ⟨by simpa using hown,?_⟩
 have one : ∀ u : Tn,TnOk w u → (∀ b ∈ u.blocks,base ≤ b ∧ b < w.heap.size ∧ v.ownBlock ≠ some b) → TnOk w' u ∧ ∀ b ∈ u.blocks,base ≤ b ∧ b < w'.heap.size ∧ v'.ownBlock ≠ some b := by
  intro u hu hub
  refine ⟨hu.moved hg (fun b hbb => (hub b hbb).2.2),fun b hbb => ?_⟩
  obtain ⟨a1,a2,a3⟩ := hub b hbb
  refine ⟨a1,Nat.lt_of_lt_of_le a2 hg.size,?_⟩
  rcases hat with e | e
  ·rw [e]; exact a3
  ·rw [e]
   intro e2
   simp only [Option.some.injEq] at e2
   omega
 intro u hu
 rcases List.mem_append.1 hu with hu | hu
 ·exact one u (h.2 u hu).1 (h.2 u hu).2
 ·simp only [List.mem_cons,List.not_mem_nil,or_false] at hu
  subst hu
  exact one _ ht hb

end Go.Proofs.YtlekfcehmlepkaaGreatDoor
