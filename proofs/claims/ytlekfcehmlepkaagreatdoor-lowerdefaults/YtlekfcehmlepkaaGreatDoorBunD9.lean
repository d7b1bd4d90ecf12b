/- Put together by a program out of these texts of mine: PSh, Ext, PAsk1, PAsk2, PAsk3, NRef3. -/
import Derived.Shelf.Small.Wraps
import Derived.Shelf.LaysM
import Derived.Shelf.Strconv.Clone
import Derived.Shelf.Strings.Cut
import Derived.Shelf.Strings.Prefix
import Derived.Shelf.Slices.Turned
import Derived.Test.YtlekfcehmlepkaaGreatDoorProg
import Derived.Deep.QuietTactic
import Derived.BigQuiet
import Derived.Test.YtlekfcehmlepkaaGreatDoorBunD1
import Derived.Test.YtlekfcehmlepkaaGreatDoorBunD5
import Derived.Test.YtlekfcehmlepkaaGreatDoorBunD8

namespace Go.Proofs.YtlekfcehmlepkaaGreatDoor
open Go.Shelf

def Sh.lays103_ren : Go.Shelf.Ren := ⟨fun | 103 => 103 | 210 => 139 | 206 => 158 | n => n,fun | 9 => 9 | 4 => 4 | 24 => 30 | 3 => 3 | n => n,fun | n => n⟩

theorem Sh.lays103 : Go.Proofs.Lays.n103 Tryz.prog Sh.lays103_ren := {
 mixed := by kernel_rfl
 f103 := Tryz.func103.trans (congrArg some (by kernel_rfl))
 f206 := Tryz.func158.trans (congrArg some (by kernel_rfl))
 f210 := Tryz.func139.trans (congrArg some (by kernel_rfl))
 t3 := Tryz.underlying3
 a3 := Tryz.isAgg3
 z3 := Tryz.sizeOf3
 v3 := Tryz.zeroValue3
 t4 := Tryz.underlying4
 a4 := Tryz.isAgg4
 z4 := Tryz.sizeOf4
 v4 := Tryz.zeroValue4
 t9 := Tryz.underlying9
 a9 := Tryz.isAgg9
 z9 := Tryz.sizeOf9
 v9 := Tryz.zeroValue9
 t24 := Tryz.underlying30
 a24 := Tryz.isAgg30
 z24 := Tryz.sizeOf30
 v24 := Tryz.zeroValue30 }

open Go.RowKit in
theorem Sh.strings_CutPrefix (s p : ByteArray) (w : World) :
  Calls Tryz.prog 103 #[.string s,.string p] w fun e w' => e = .returned (.tuple #[.string ⟨(Lib.trimPrefix s.data.toList p.data.toList).toArray⟩,.bool (Lib.hasPrefix s.data.toList p.data.toList)]) ∧ w' = w := Any.strings_CutPrefix Sh.lays103 s p w

def Sh.laysM316_ren : Go.Shelf.Ren := ⟨fun | 316 => 27 | n => n,fun | 9 => 9 | 3 => 3 | 4 => 4 | 37 => 41 | 0 => 0 | 127 => 102 | 5 => 5 | n => n,fun | n => n⟩

theorem Sh.laysM316 : Go.Proofs.LaysM.n316 Tryz.prog Sh.laysM316_ren := {
 mixed := by kernel_rfl
 f316 := Tryz.func27.trans (congrArg some (by kernel_rfl))
 t0 := Tryz.underlying0
 a0 := Tryz.isAgg0
 z0 := Tryz.sizeOf0
 v0 := Tryz.zeroValue0
 t3 := Tryz.underlying3
 a3 := Tryz.isAgg3
 z3 := Tryz.sizeOf3
 v3 := Tryz.zeroValue3
 t4 := Tryz.underlying4
 a4 := Tryz.isAgg4
 z4 := Tryz.sizeOf4
 v4 := Tryz.zeroValue4
 t9 := Tryz.underlying9
 a9 := Tryz.isAgg9
 z9 := Tryz.sizeOf9
 v9 := Tryz.zeroValue9
 t37 := Tryz.underlying41
 a37 := Tryz.isAgg41
 z37 := Tryz.sizeOf41
 v37 := Tryz.zeroValue41
 t127 := Tryz.underlying102
 a127 := Tryz.isAgg102
 z127 := Tryz.sizeOf102
 v127 := Tryz.zeroValue102
 t5 := Tryz.underlying5
 a5 := Tryz.isAgg5
 z5 := Tryz.sizeOf5
 v5 := Tryz.zeroValue5
 i0 := by kernel_rfl
 i3 := by kernel_rfl
 i4 := by kernel_rfl
 i5 := by kernel_rfl
 i9 := by kernel_rfl
 i37 := by kernel_rfl
 i127 := by kernel_rfl }

open Go.RowKit in
theorem Sh.stringslite_Clone (s : ByteArray) (w : World) (hlim : s.size ≤ 281474976710656) :
  Calls Tryz.prog 27 #[.string s] w fun e w' => e = .returned (.string s) ∧ Below w.heap.size w w' := Any.stringslite_Clone Sh.laysM316 s w hlim

def Sh.lays145_ren : Go.Shelf.Ren := ⟨fun | 145 => 121 | 220 => 160 | 219 => 179 | 217 => 194 | 225 => 195 | 224 => 196 | 267 => 197 | 266 => 208 | 314 => 209 | n => n,fun | 9 => 9 | 4 => 4 | 59 => 138 | 3 => 3 | 5 => 5 | 46 => 77 | 146 => 212 | 51 => 209 | n => n,fun | 1 => 1 | n => n⟩

theorem Sh.lays145 : Go.Proofs.Lays.n145 Tryz.prog Sh.lays145_ren := {
 mixed := by kernel_rfl
 f145 := Tryz.func121.trans (congrArg some (by kernel_rfl))
 f217 := Tryz.func194.trans (congrArg some (by kernel_rfl))
 f219 := Tryz.func179.trans (congrArg some (by kernel_rfl))
 f220 := Tryz.func160.trans (congrArg some (by kernel_rfl))
 f224 := Tryz.func196.trans (congrArg some (by kernel_rfl))
 f225 := Tryz.func195.trans (congrArg some (by kernel_rfl))
 f266 := Tryz.func208.trans (congrArg some (by kernel_rfl))
 f267 := Tryz.func197.trans (congrArg some (by kernel_rfl))
 f314 := Tryz.func209.trans (congrArg some (by kernel_rfl))
 t3 := Tryz.underlying3
 a3 := Tryz.isAgg3
 z3 := Tryz.sizeOf3
 v3 := Tryz.zeroValue3
 t4 := Tryz.underlying4
 a4 := Tryz.isAgg4
 z4 := Tryz.sizeOf4
 v4 := Tryz.zeroValue4
 t5 := Tryz.underlying5
 a5 := Tryz.isAgg5
 z5 := Tryz.sizeOf5
 v5 := Tryz.zeroValue5
 t9 := Tryz.underlying9
 a9 := Tryz.isAgg9
 z9 := Tryz.sizeOf9
 v9 := Tryz.zeroValue9
 t46 := Tryz.underlying77
 a46 := Tryz.isAgg77
 z46 := Tryz.sizeOf77
 v46 := Tryz.zeroValue77
 t51 := Tryz.underlying209
 a51 := Tryz.isAgg209
 z51 := Tryz.sizeOf209
 v51 := Tryz.zeroValue209
 t59 := Tryz.underlying138
 a59 := Tryz.isAgg138
 z59 := Tryz.sizeOf138
 v59 := Tryz.zeroValue138
 t146 := Tryz.underlying212
 a146 := Tryz.isAgg212
 z146 := Tryz.sizeOf212
 v146 := Tryz.zeroValue212
 g1 := by kernel_rfl }

open Go.RowKit Go.Lib in
theorem Sh.strings_Cut (s sep : ByteArray) (m : Int) (w : World) (hs : s.size < 4294967281) (hm : w.cell? ⟨1,0,none⟩ = some (.int .i64 m)) :
  Calls Tryz.prog 121 #[.string s,.string sep] w fun e w' => e = .returned (.tuple #[.string ⟨(Lib.cut s.data.toList sep.data.toList).1.toArray⟩,.string ⟨(Lib.cut s.data.toList sep.data.toList).2.1.toArray⟩,.bool (Lib.cut s.data.toList sep.data.toList).2.2]) ∧ ∃ n,w' = w.drewN n := Any.strings_Cut Sh.lays145 s sep m w hs hm

def Sh.lays100_ren : Go.Shelf.Ren := ⟨fun | 100 => 126 | 207 => 162 | n => n,fun | 9 => 9 | 4 => 4 | 3 => 3 | n => n,fun | n => n⟩

theorem Sh.lays100 : Go.Proofs.Lays.n100 Tryz.prog Sh.lays100_ren := {
 mixed := by kernel_rfl
 f100 := Tryz.func126.trans (congrArg some (by kernel_rfl))
 f207 := Tryz.func162.trans (congrArg some (by kernel_rfl))
 t3 := Tryz.underlying3
 a3 := Tryz.isAgg3
 z3 := Tryz.sizeOf3
 v3 := Tryz.zeroValue3
 t4 := Tryz.underlying4
 a4 := Tryz.isAgg4
 z4 := Tryz.sizeOf4
 v4 := Tryz.zeroValue4
 t9 := Tryz.underlying9
 a9 := Tryz.isAgg9
 z9 := Tryz.sizeOf9
 v9 := Tryz.zeroValue9 }

open Go.RowKit Go.Lib in
theorem Sh.strings_HasSuffix (s p : ByteArray) (w : World) (hs : s.size ≤ 9223372036854775807) :
  Calls Tryz.prog 126 #[.string s,.string p] w fun e w' => e = .returned (.bool (Lib.hasSuffix s.data.toList p.data.toList)) ∧ w' = w := Any.strings_HasSuffix Sh.lays100 s p w hs

def Sh.lays101_ren : Go.Shelf.Ren := ⟨fun | 101 => 72 | 208 => 116 | 206 => 158 | n => n,fun | 9 => 9 | 4 => 4 | 3 => 3 | n => n,fun | n => n⟩

theorem Sh.lays101 : Go.Proofs.Lays.n101 Tryz.prog Sh.lays101_ren := {
 mixed := by kernel_rfl
 f101 := Tryz.func72.trans (congrArg some (by kernel_rfl))
 f206 := Tryz.func158.trans (congrArg some (by kernel_rfl))
 f208 := Tryz.func116.trans (congrArg some (by kernel_rfl))
 t3 := Tryz.underlying3
 a3 := Tryz.isAgg3
 z3 := Tryz.sizeOf3
 v3 := Tryz.zeroValue3
 t4 := Tryz.underlying4
 a4 := Tryz.isAgg4
 z4 := Tryz.sizeOf4
 v4 := Tryz.zeroValue4
 t9 := Tryz.underlying9
 a9 := Tryz.isAgg9
 z9 := Tryz.sizeOf9
 v9 := Tryz.zeroValue9 }

open Go.RowKit Go.Lib in
theorem Sh.strings_TrimPrefix (s p : ByteArray) (w : World) :
  Calls Tryz.prog 72 #[.string s,.string p] w fun e w' => e = .returned (.string ⟨(Lib.trimPrefix s.data.toList p.data.toList).toArray⟩) ∧ w' = w := Any.strings_TrimPrefix Sh.lays101 s p w

def Sh.lays107_ren : Go.Shelf.Ren := ⟨fun | 107 => 119 | 108 => 159 | n => n,fun | 28 => 36 | 3 => 3 | 4 => 4 | 0 => 0 | n => n,fun | n => n⟩

theorem Sh.lays107 : Go.Proofs.Lays.n107 Tryz.prog Sh.lays107_ren := {
 mixed := by kernel_rfl
 f107 := Tryz.func119.trans (congrArg some (by kernel_rfl))
 f108 := Tryz.func159.trans (congrArg some (by kernel_rfl))
 t0 := Tryz.underlying0
 a0 := Tryz.isAgg0
 z0 := Tryz.sizeOf0
 v0 := Tryz.zeroValue0
 t3 := Tryz.underlying3
 a3 := Tryz.isAgg3
 z3 := Tryz.sizeOf3
 v3 := Tryz.zeroValue3
 t4 := Tryz.underlying4
 a4 := Tryz.isAgg4
 z4 := Tryz.sizeOf4
 v4 := Tryz.zeroValue4
 t28 := Tryz.underlying36
 a28 := Tryz.isAgg36
 z28 := Tryz.sizeOf36
 v28 := Tryz.zeroValue36 }

open Go.Lib in
theorem Sh.slices_Contains_int (b off n c : Nat) (zs : List Int) (x : Int) (w : World) (hz : n ≤ zs.length) (hbig : n ≤ 9223372036854775807) (hc : ∀ j,j < zs.length → w.cell? ⟨b,off + j,none⟩ = some (.int .i64 (zs.getD j 0))) :
  Calls Tryz.prog 119 #[.slice (some ⟨b,off,none⟩) n c,.int .i64 x] w fun e w' => e = .returned (.bool ((zs.take n).contains x)) ∧ w' = w := Any.slices_Contains_int Sh.lays107 b off n c zs x w hz hbig hc

open Go.Lib in
theorem Sh.slices_Contains_int_empty (a : Option Addr) (c : Nat) (x : Int) (w : World) :
  Calls Tryz.prog 119 #[.slice a 0 c,.int .i64 x] w fun e w' => e = .returned (.bool false) ∧ w' = w := Any.slices_Contains_int_empty Sh.lays107 a c x w

end Go.Proofs.YtlekfcehmlepkaaGreatDoor

namespace Go.Proofs.YtlekfcehmlepkaaGreatDoor
open Go.RowKit

structure Ext (W0 : World) where
 val : World
 ok : Below W0.heap.size W0 val

instance (W0 : World) : Nonempty (Ext W0) := ⟨⟨W0,Below.refl _ _⟩⟩

theorem wp_region_ext {P : Program} {id : Nat} {Q : Exit → Act → World → Prop} {a : Act} {w : World} {l : List Oper} (W0 : World) (h0 : Below W0.heap.size W0 w) (hm : P.follows .mixedOrders = true) (hB : Region.lexB .any l.toArray = true)
  (h : wpQuiet P l.toArray (fun w' => ∃ x : Ext W0,w' = x.val) (fun a' => ∀ w',(∃ x : Ext W0,w' = x.val) → Q .normal a' w') l a) : (Code.region id l.toArray true).wp P Q a w :=
 wp_region_quiet (C := fun w' => ∃ x : Ext W0,w' = x.val) hm hB ⟨⟨_,h0.drew⟩,rfl⟩ (by simpa using h)

theorem Ext.call {P : Program} {W0 : World} {f : FuncId} {args : Array Value} {v : Value} (q : ∀ V,Below W0.heap.size W0 V → Calls P f args V fun e W' => e = .returned v ∧ Below V.heap.size V W') (x : Ext W0) :
  Calls P f args x.val fun e w'' => e = .returned v ∧ ∃ y : Ext W0,w'' = y.val :=
 (q x.val x.ok).mono fun _ w'' ⟨he,hb⟩ => ⟨he,⟨w'',x.ok.trans (hb.mono x.ok.size)⟩,rfl⟩

theorem Ext.cell {W0 : World} (x : Ext W0) {p : Addr} (hp : p.block < W0.heap.size) {v : Value} (h : W0.cell? p = some v) : x.val.cell? p = some v := (x.ok.cell hp).trans h

end Go.Proofs.YtlekfcehmlepkaaGreatDoor

namespace Go.Proofs.YtlekfcehmlepkaaGreatDoor
open Go.RowKit
set_option linter.unusedVariables false
set_option linter.unusedSimpArgs false

def Ib (w : World) (b : Nat) (zs : List Int) : Prop := ∀ j,j < zs.length → w.cell? ⟨b,0 + j,none⟩ = some (.int .i64 (zs.getD j 0))

theorem Ib.of_block {w V : World} {b : Nat} {zs : List Int} (h : Ib w b zs) (hb : V.heap[b]? = w.heap[b]?) : Ib V b zs := fun j hj => by
 rw [← h j hj]; simp [World.cell?,hb]

set_option maxRecDepth 10000 in
set_option maxHeartbeats 1000000 in
theorem ponly1_any (t : Tn) (V : World) (g b c : Nat) (zs : List Int) (hz : zs.length ≤ 100) (hg : V.heap[g]? = some (.cells #[.slice (some ⟨b,0,none⟩) zs.length c] 36 (0,0))) (hi : Ib V b zs) (hb : b < V.heap.size) :
  Calls Tryz.prog 118 #[t.val,.pointer (some ⟨g,0,none⟩)] V fun e V' => e = .returned (.bool (zs.contains t.kind)) ∧ Below V.heap.size V V' := by
 obtain ⟨kind,text,n,m,a,pos,doc,ad,cap,kids⟩ := t
 change Calls Tryz.prog 118 #[.agg #[.int .i64 kind,.string (strOfNums text),.int .i64 n,.int .i64 m,.int .i64 a,.int .i64 pos,.string (strOfNums doc),.slice ad kids.length cap],.pointer (some ⟨g,0,none⟩)] V fun e V' => e = .returned (.bool (zs.contains kind)) ∧ Below V.heap.size V V'
 generalize strOfNums text = T1
 generalize strOfNums doc = T2
 have hc := one_cell_of hg
 have hlt := one_lt hg
 have HBA : Hid (Below V.heap.size V (V.alloc (.cells #[.int .i64 kind,.string T1,.int .i64 n,.int .i64 m,.int .i64 a,.int .i64 pos,.string T2,.slice ad kids.length cap] 28))) := (Below.refl _ _).alloc (Nat.le_refl _) _
 have q := Sh.slices_Contains_int b 0 zs.length c zs kind (V.alloc (.cells #[.int .i64 kind,.string T1,.int .i64 n,.int .i64 m,.int .i64 a,.int .i64 pos,.string T2,.slice ad kids.length cap] 28)) (Nat.le_refl _) (by omega) (hi.of_block (HBA.out.block _ hb))
 rw [List.take_length] at q
 generalize zs.contains kind = R at q ⊢
 generalize zs.length = N at *
 have Q : Hid _ := q
 clear q hi hg
 go_enter Tryz.func118,Tryz.ntmps118
 go_wp2_with fail
 refine Calls.mono Q.out ?_
 rintro e w1 ⟨rfl,rfl⟩
 go_wp2
 go_ret
 exact ⟨rfl,HBA.out⟩

set_option maxRecDepth 10000 in
set_option maxHeartbeats 1000000 in
theorem ponly2_any {V : World} {ad : Option Addr} {cap : Nat} {kids : List Tn} (hk : Kl V ad cap kids) (go : Nat) (kf : FuncId) (hin : Goin kf) (caps : Array Value) (p : Tn → Bool) (hg : V.heap[go]? = some (.cells #[.func (.func kf) #[] caps] 29 (0,0)))
  (hf : ∀ (i : Nat) (t : Tn),kids[i]? = some t → ∀ U,Below V.heap.size V U → Calls Tryz.prog kf (#[t.val] ++ caps) U fun e U' => e = .returned (.bool (p t)) ∧ Below U.heap.size U U') :
  Calls Tryz.prog 120 #[.slice ad kids.length cap,.pointer (some ⟨go,0,none⟩)] V fun e V' => e = .returned (.bool (kids.all p)) ∧ Below V.heap.size V V' := by
 have q := peach_ask hk kf hin caps p hf
 generalize kids.all p = R at q ⊢
 generalize kids.length = N at q ⊢
 have hc := one_cell_of hg
 have Q : Hid _ := q
 clear q hf hk hg hin
 go_enter Tryz.func120,Tryz.ntmps120
 go_wp2_with fail
 refine Calls.mono Q.out ?_
 rintro e w1 ⟨rfl,hb⟩
 go_wp2
 go_ret
 exact ⟨rfl,hb⟩

set_option maxRecDepth 10000 in
set_option maxHeartbeats 1000000 in
theorem ponly_any (W : World) (b c : Nat) (zs : List Int) (hz : zs.length ≤ 100) (hi : Ib W b zs) (hb : b < W.heap.size) (B : Nat) (hB : B ≤ b) :
  Calls Tryz.prog 78 #[.slice (some ⟨b,0,none⟩) zs.length c] W fun e W' => ∃ f,e = .returned f ∧ AskL B W' f (fun l => l.all fun t => zs.contains t.kind) ∧ Below W.heap.size W W' := by
 have hmf : ∀ (fn : Fn) (first cap : Array Value) (w : World),(Instr.makeFunc fn first cap).run Tryz.prog w = .ok (.func fn first cap) w := fun _ _ _ _ => rfl
 have HBA : Hid (Below W.heap.size W ((W.alloc (.cells #[.slice (some ⟨b,0,none⟩) zs.length c] 36)).alloc (.cells #[.func (.func 118) #[] #[.pointer (some ⟨W.heap.size,0,none⟩)]] 29))) := ((Below.refl _ _).alloc (Nat.le_refl _) _).alloc (by simp only [World.size_alloc]; omega) _
 have fin : Hid (AskL B ((W.alloc (.cells #[.slice (some ⟨b,0,none⟩) zs.length c] 36)).alloc (.cells #[.func (.func 118) #[] #[.pointer (some ⟨W.heap.size,0,none⟩)]] 29)) (.func (.func 120) #[] #[.pointer (some ⟨W.heap.size + 1,0,none⟩)]) (fun l => l.all fun t => zs.contains t.kind)) := by
  refine ⟨_,_,rfl,Tryz.call120,fun V ad cap kids hV hT hk hs => ?_⟩
  have b0 : V.heap[W.heap.size]? = _ := (hV.block _ (by omega) (by simp only [World.size_alloc]; omega)).trans (alloc_old (alloc_at W (.cells #[.slice (some ⟨b,0,none⟩) zs.length c] 36) rfl))
  have b1 : V.heap[W.heap.size + 1]? = _ := (hV.block _ (by omega) (by simp only [World.size_alloc]; omega)).trans (alloc_at _ _ (by simp))
  have b2 : V.heap[b]? = W.heap[b]? := (hV.block _ hB (by simp only [World.size_alloc]; omega)).trans (HBA.out.block _ hb)
  refine ponly2_any hk (W.heap.size + 1) 118 Tryz.call118 #[.pointer (some ⟨W.heap.size,0,none⟩)] (fun t => zs.contains t.kind) b1 (fun i t ht U hU => ?_)
  exact ponly1_any t U W.heap.size b c zs hz ((hU.block _ (one_lt b0)).trans b0) ((hi.of_block b2).of_block (hU.block _ (Nat.lt_of_lt_of_le hb (Nat.le_trans HBA.out.size hV.size)))) (Nat.lt_of_lt_of_le hb (Nat.le_trans HBA.out.size (Nat.le_trans hV.size hU.size)))
 generalize zs.length = N at *
 clear hi
 go_enter Tryz.func78,Tryz.ntmps78
 go_wp2
 go_ret
 exact ⟨_,rfl,fin.out,HBA.out⟩

set_option maxRecDepth 10000 in
set_option maxHeartbeats 1000000 in
theorem psome1_any {V : World} {ad : Option Addr} {cap : Nat} (N : Nat) (hN : (N : Int) ≤ 9223372036854775807) (g : Nat) (kf : FuncId) (hin : Goin kf) (caps : Array Value) (R : Bool) (hg : V.heap[g]? = some (.cells #[.func (.func kf) #[] caps] 93 (0,0)))
  (hf : Calls Tryz.prog kf (#[.slice ad N cap] ++ caps) V fun e V' => e = .returned (.bool R) ∧ Below V.heap.size V V') :
  Calls Tryz.prog 125 #[.slice ad N cap,.pointer (some ⟨g,0,none⟩)] V fun e V' => e = .returned (.bool (decide (0 < N) && R)) ∧ Below V.heap.size V V' := by
 have hc := one_cell_of hg
 have Q : Hid _ := hf
 have HB : Hid (Below V.heap.size V V) := Below.refl _ _
 clear hf hg
 unfold Goin at hin
 by_cases h0 : 0 < N
 ·have e1 : (0 : Int) < (N : Int) := by omega
  rw [decide_eq_true h0,Bool.true_and]
  clear h0
  go_enter Tryz.func125,Tryz.ntmps125
  go_wp2_with fail
  refine Calls.mono Q.out ?_
  rintro e w1 ⟨rfl,hb⟩
  go_wp2
  go_ret
  exact ⟨rfl,hb⟩
 ·obtain rfl : N = 0 := by omega
  clear Q
  go_enter Tryz.func125,Tryz.ntmps125
  go_wp2
  go_ret
  exact ⟨rfl,HB.out⟩

set_option maxRecDepth 10000 in
set_option maxHeartbeats 1000000 in
theorem psome_any (W : World) (kind : Int) (h0 : 0 ≤ kind) (h1 : kind ≤ 100) :
  Calls Tryz.prog 84 #[.int .i64 kind] W fun e W' => ∃ f,e = .returned f ∧ AskL W.heap.size W' f (fun l => decide (0 < l.length) && l.all fun t => [kind].contains t.kind) ∧ Below W.heap.size W W' := by
 have hmf : ∀ (fn : Fn) (first cap : Array Value) (w : World),(Instr.makeFunc fn first cap).run Tryz.prog w = .ok (.func fn first cap) w := fun _ _ _ _ => rfl
 have HBA : Hid (Below W.heap.size W (W.alloc (.cells #[.int .i64 kind] 3))) := (Below.refl _ _).alloc (Nat.le_refl _) _
 have Q : Hid _ := ponly_any (W.alloc (.cells #[.int .i64 kind] 3)) W.heap.size 1 [kind] (by simp) (fun j hj => by
  obtain rfl : j = 0 := by simp at hj; omega
  exact one_cell_of (alloc_at _ _ rfl)) (by simp) W.heap.size (Nat.le_refl _)
 go_enter Tryz.func84,Tryz.ntmps84
 go_wp2_with fail
 refine Calls.mono Q.out ?_
 rintro e w1 ⟨f,rfl,⟨k,caps,rfl,hin,hask⟩,hb⟩
 have hb' : Below W.heap.size W w1 := HBA.out.trans (hb.mono HBA.out.size)
 have HB : Hid (Below W.heap.size W (w1.alloc (.cells #[.func (.func k) #[] caps] 93))) := hb'.alloc hb'.size _
 have fin : Hid (AskL W.heap.size (w1.alloc (.cells #[.func (.func k) #[] caps] 93)) (.func (.func 125) #[] #[.pointer (some ⟨w1.heap.size,0,none⟩)]) (fun l => decide (0 < l.length) && l.all fun t => [kind].contains t.kind)) := by
  refine ⟨_,_,rfl,Tryz.call125,fun V ad cap kids hV hT hk hs => ?_⟩
  have b0 : V.heap[w1.heap.size]? = _ := (hV.block _ hb'.size (by simp only [World.size_alloc]; omega)).trans (alloc_at w1 _ rfl)
  exact psome1_any kids.length hk.hlen w1.heap.size k hin caps _ b0 (hask V ad cap kids ((Sin.of ((Below.refl _ _).alloc (Nat.le_refl _) _) (Nat.le_refl _)).trans hV) hT hk hs)
 clear Q hb hin hask hb'
 go_wp2
 go_ret
 exact ⟨_,rfl,fin.out,HB.out⟩

theorem Kl.take {w : World} {ad : Option Addr} {cap : Nat} {kids : List Tn} (h : Kl w ad cap kids) (n : Nat) (hn : n ≤ kids.length) : Kl w ad cap (kids.take n) := by
 have hl : (kids.take n).length = n := by rw [List.length_take]; omega
 refine ⟨by have := h.hlen; omega,by have := h.hcap; omega,h.hnil,fun hp => ?_,fun i t hi => ?_⟩
 ·obtain ⟨b,off,h1,h2,h3⟩ := h.hmem (by omega)
  refine ⟨b,off,h1,h2,fun i t hi => h3 i t ?_⟩
  rw [List.getElem?_take] at hi
  split at hi
  ·exact hi
  ·cases hi
 ·refine h.hall i t ?_
  rw [List.getElem?_take] at hi
  split at hi
  ·exact hi
  ·cases hi

theorem Kl.drop {w : World} {b off : Nat} {cap : Nat} {kids : List Tn} (h : Kl w (some ⟨b,off,none⟩) cap kids) (n : Nat) (hn : n ≤ kids.length) : Kl w (some ⟨b,off + n * 8,none⟩) (cap - n) (kids.drop n) := by
 have hl : (kids.drop n).length = kids.length - n := List.length_drop ..
 refine ⟨by have := h.hlen; omega,by have := h.hcap; omega,by simp,fun hp => ?_,fun i t hi => ?_⟩
 ·obtain ⟨b',off',h1,h2,h3⟩ := h.hmem (by omega)
  cases h1
  refine ⟨b,off + n * 8,rfl,h2,fun i t hi j u hj => ?_⟩
  rw [List.getElem?_drop] at hi
  have := h3 (n + i) t hi j u hj
  rw [show off + n * 8 + i * 8 + j = off + (n + i) * 8 + j by omega]
  exact this
 ·rw [List.getElem?_drop] at hi
  exact h.hall _ t hi

theorem Kl.empty {w : World} {ad : Option Addr} {cap : Nat} (h : ad = none → cap = 0) : Kl w ad cap [] := ⟨by simp,by simp,h,fun hp => absurd hp (by simp),fun i t hi => by simp at hi⟩

set_option maxRecDepth 10000 in
set_option maxHeartbeats 4000000 in
theorem ptyped1_any {V : World} (b off cap N cnt : Nat) (hN : (N : Int) ≤ 9223372036854775807) (hcap : N ≤ cap) (hle : cnt ≤ N) (h9 : cnt ≤ 9) (h1 : 0 < cnt) (gc gt gp : Nat) (k1 k2 : FuncId) (hin1 : Goin k1) (hin2 : Goin k2) (caps1 caps2 : Array Value) (R1 R2 : Bool)
  (hgc : V.heap[gc]? = some (.cells #[.int .i64 (cnt : Int)] 3 (0,0))) (hgt : V.heap[gt]? = some (.cells #[.func (.func k1) #[] caps1] 93 (0,0))) (hgp : V.heap[gp]? = some (.cells #[.func (.func k2) #[] caps2] 93 (0,0)))
  (hf1 : ∀ U,Below V.heap.size V U → Calls Tryz.prog k1 (#[.slice (some ⟨b,off,none⟩) cnt cap] ++ caps1) U fun e U' => e = .returned (.bool R1) ∧ Below U.heap.size U U')
  (hf2 : ∀ U,Below V.heap.size V U → Calls Tryz.prog k2 (#[.slice (if cap = cnt then some ⟨b,off,none⟩ else some ⟨b,off + cnt * 8,none⟩) (N - cnt) (cap - cnt)] ++ caps2) U fun e U' => e = .returned (.bool R2) ∧ Below U.heap.size U U') :
  Calls Tryz.prog 123 #[.slice (some ⟨b,off,none⟩) N cap,.pointer (some ⟨gc,0,none⟩),.pointer (some ⟨gt,0,none⟩),.pointer (some ⟨gp,0,none⟩)] V fun e V' => e = .returned (.bool (R1 && R2)) ∧ Below V.heap.size V V' := by
 have c0 := fun x : Ext V => x.cell (one_lt hgc) (one_cell_of hgc)
 have c1 := fun x : Ext V => x.cell (one_lt hgt) (one_cell_of hgt)
 have c2 := fun x : Ext V => x.cell (one_lt hgp) (one_cell_of hgp)
 have Q1 : Hid _ := hf1
 have Q2 : Hid _ := hf2
 unfold Goin at hin1 hin2
 have e1 : (cnt : Int) ≤ (N : Int) := by omega
 clear hgc hgt hgp hf1 hf2
 cases R1 with
 | false =>
  go_enter Tryz.func123,Tryz.ntmps123
  go_wp2_with fail
  refine wp_region_ext V (Below.refl _ _) rfl (by kernel_rfl) ?_
  repeat (go_big_quiet_step (exact Ext.call (fun U hU => Q1.out U hU) _))
  refine wpQuiet_nil ?_
  rintro w5 ⟨⟨_,hb5⟩,rfl⟩
  have HB5 : Hid (Below V.heap.size V w5) := hb5
  clear hb5
  go_wp2
  go_ret
  exact ⟨rfl,HB5.out⟩
 | true =>
  go_enter Tryz.func123,Tryz.ntmps123
  go_wp2_with fail
  refine wp_region_ext V (Below.refl _ _) rfl (by kernel_rfl) ?_
  repeat (go_big_quiet_step (first | (exact Ext.call (fun U hU => Q1.out U hU) _) | (exact Ext.call (fun U hU => Q2.out U hU) _)))
  refine wpQuiet_nil ?_
  rintro w5 ⟨⟨_,hb5⟩,rfl⟩
  have HB5 : Hid (Below V.heap.size V w5) := hb5
  clear hb5
  go_wp2
  all_goals go_ret
  all_goals exact ⟨by simp,HB5.out⟩

set_option maxRecDepth 10000 in
set_option maxHeartbeats 4000000 in
theorem ptyped1_short {V : World} (ad : Option Addr) (cap N cnt : Nat) (hN : (N : Int) ≤ 9223372036854775807) (hle : ¬ cnt ≤ N) (h9 : cnt ≤ 9) (gc gt gp : Nat)
  (hgc : V.heap[gc]? = some (.cells #[.int .i64 (cnt : Int)] 3 (0,0))) :
  Calls Tryz.prog 123 #[.slice ad N cap,.pointer (some ⟨gc,0,none⟩),.pointer (some ⟨gt,0,none⟩),.pointer (some ⟨gp,0,none⟩)] V fun e V' => e = .returned (.bool false) ∧ Below V.heap.size V V' := by
 have c0 := fun x : Ext V => x.cell (one_lt hgc) (one_cell_of hgc)
 have e1 : decide (cnt ≤ N) = false := decide_eq_false hle
 clear hgc
 go_enter Tryz.func123,Tryz.ntmps123
 go_wp2_with fail
 refine wp_region_ext V (Below.refl _ _) rfl (by kernel_rfl) ?_
 repeat (go_big_quiet_step (fail))
 refine wpQuiet_nil ?_
 rintro w5 ⟨⟨_,hb5⟩,rfl⟩
 have HB5 : Hid (Below V.heap.size V w5) := hb5
 clear hb5
 go_wp2
 go_ret
 exact ⟨rfl,HB5.out⟩

def ptyp (cnt : Nat) (l : List Tn) : Bool := decide (cnt ≤ l.length) && (((l.take cnt).all fun t => [18].contains t.kind) && ((l.drop cnt).all fun t => [4].contains t.kind))

set_option maxRecDepth 10000 in
set_option maxHeartbeats 2000000 in
theorem ptyped_any (W : World) (cnt : Nat) (h1 : 0 < cnt) (h9 : cnt ≤ 9) :
  Calls Tryz.prog 81 #[.int .i64 (cnt : Int)] W fun e W' => ∃ f,e = .returned f ∧ AskL W.heap.size W' f (ptyp cnt) ∧ Below W.heap.size W W' := by
 have hmf : ∀ (fn : Fn) (first cap : Array Value) (w : World),(Instr.makeFunc fn first cap).run Tryz.prog w = .ok (.func fn first cap) w := fun _ _ _ _ => rfl
 have HBA : Hid (Below W.heap.size W ((W.alloc (.cells #[.int .i64 (cnt : Int)] 3)).alloc (.cells #[.int .i64 18] 3))) := ((Below.refl _ _).alloc (Nat.le_refl _) _).alloc (by simp only [World.size_alloc]; omega) _
 have Q : Hid _ := ponly_any ((W.alloc (.cells #[.int .i64 (cnt : Int)] 3)).alloc (.cells #[.int .i64 18] 3)) (W.heap.size + 1) 1 [18] (by simp) (fun j hj => by
  obtain rfl : j = 0 := by simp at hj; omega
  exact one_cell_of (alloc_at _ _ (by simp))) (by simp) W.heap.size (by omega)
 have Q2 : Hid (∀ w1,Below W.heap.size W w1 → _) := fun w1 (h1 : Below W.heap.size W w1) => ponly_any (w1.alloc (.cells #[.int .i64 4] 3)) w1.heap.size 1 [4] (by simp) (fun j hj => by
  obtain rfl : j = 0 := by simp at hj; omega
  exact one_cell_of (alloc_at _ _ rfl)) (by simp) W.heap.size h1.size
 go_enter Tryz.func81,Tryz.ntmps81
 go_wp2_with fail
 refine Calls.mono Q.out ?_
 rintro e w1 ⟨f,rfl,⟨k,caps,rfl,hin,hask⟩,hb⟩
 have hb' : Below W.heap.size W w1 := HBA.out.trans (hb.mono HBA.out.size)
 have Q3 : Hid _ := Q2.out w1 hb'
 have b0 : w1.heap[W.heap.size]? = some (.cells #[.int .i64 (cnt : Int)] 3 (0,0)) := (hb.block _ (by simp only [World.size_alloc]; omega)).trans (alloc_old (alloc_at _ _ rfl))
 have HB1 : Hid (Below W.heap.size W w1) := hb'
 have HI : Hid _ := And.intro hin (And.intro hask b0)
 clear Q Q2 hb hin hask hb' b0
 go_wp2_with fail
 refine Calls.mono Q3.out ?_
 rintro e w2 ⟨f,rfl,⟨k2,caps2,rfl,hin2,hask2⟩,hb2⟩
 have hb2' : Below w1.heap.size w1 w2 := ((Below.refl _ _).alloc (Nat.le_refl _) _).trans (hb2.mono (by simp))
 have HB2 : Hid (Below W.heap.size W w2) := HB1.out.trans (hb2'.mono HB1.out.size)
 have HI2 : Hid _ := And.intro hin2 (And.intro hask2 hb2')
 clear Q3 hb2 hin2 hask2 hb2'
 go_wp2
 go_ret
 obtain ⟨hin,hask,b0⟩ := HI.out
 obtain ⟨hin2,hask2,hb2⟩ := HI2.out
 have hbe : Below w2.heap.size w2 ((w2.alloc (.cells #[.func (.func k) #[] caps] 93)).alloc (.cells #[.func (.func k2) #[] caps2] 93)) := ((Below.refl _ _).alloc (Nat.le_refl _) _).alloc (by simp only [World.size_alloc]; omega) _
 refine ⟨_,rfl,⟨_,_,rfl,Tryz.call123,fun V ad cap kids hV hT hk hs => ?_⟩,HB2.out.trans (hbe.mono HB2.out.size)⟩
 have hbV := fun U (hU : Below V.heap.size V U) => (show Sin W.heap.size w2 U from (Sin.of hbe (Nat.le_refl _)).trans (hV.trans (Sin.of hU (Nat.le_refl _))))
 have c0 : V.heap[W.heap.size]? = some (.cells #[.int .i64 (cnt : Int)] 3 (0,0)) := (hV.block _ (Nat.le_refl _) (Nat.lt_of_lt_of_le (one_lt b0) (Nat.le_trans hb2.size hbe.size))).trans ((hbe.block _ (Nat.lt_of_lt_of_le (one_lt b0) hb2.size)).trans ((hb2.block _ (one_lt b0)).trans b0))
 have c1 : V.heap[w2.heap.size]? = some (.cells #[.func (.func k) #[] caps] 93 (0,0)) := (hV.block _ HB2.out.size (by simp only [World.size_alloc]; omega)).trans (alloc_old (alloc_at _ _ rfl))
 have c2 : V.heap[w2.heap.size + 1]? = some (.cells #[.func (.func k2) #[] caps2] 93 (0,0)) := (hV.block _ (Nat.le_trans HB2.out.size (by omega)) (by simp only [World.size_alloc]; omega)).trans (alloc_at _ _ (by simp))
 by_cases hle : cnt ≤ kids.length
 ·obtain ⟨b,off,rfl,_⟩ := hk.hmem (by omega)
  rw [show ptyp cnt kids = (((kids.take cnt).all fun t => [18].contains t.kind) && ((kids.drop cnt).all fun t => [4].contains t.kind)) by unfold ptyp; rw [decide_eq_true hle,Bool.true_and]]
  have hl1 : (kids.take cnt).length = cnt := by rw [List.length_take]; omega
  have hl2 : (kids.drop cnt).length = kids.length - cnt := List.length_drop ..
  refine ptyped1_any b off cap kids.length cnt hk.hlen hk.hcap hle h9 h1 W.heap.size w2.heap.size (w2.heap.size + 1) k k2 hin hin2 caps caps2 _ _ c0 c1 c2 (fun U hU => ?_) (fun U hU => ?_)
  ·have := hask U (some ⟨b,off,none⟩) cap (kids.take cnt) ((Sin.of hb2 (Nat.le_refl _)).trans (hbV U hU)) (hT.below hU (Nat.le_refl _)) ((hk.take cnt hle).under hU) (fun i t hi => hs i t (by
    rw [List.getElem?_take] at hi
    split at hi
    ·exact hi
    ·cases hi))
   rw [hl1] at this
   exact this
  ·have := hask2 U (if cap = cnt then some ⟨b,off,none⟩ else some ⟨b,off + cnt * 8,none⟩) (cap - cnt) (kids.drop cnt) (hbV U hU) (hT.below hU (Nat.le_refl _)) (by
    by_cases hcc : cap = cnt
    ·rw [if_pos hcc]
     have : kids.drop cnt = [] := List.drop_of_length_le (by have := hk.hcap; omega)
     rw [this]
     exact Kl.empty (by simp)
    ·rw [if_neg hcc]
     exact (hk.drop cnt hle).under hU) (fun i t hi => hs _ t (by rw [List.getElem?_drop] at hi; exact hi))
   rw [hl2] at this
   exact this
 ·rw [show ptyp cnt kids = false by unfold ptyp; rw [decide_eq_false hle,Bool.false_and]]
  exact ptyped1_short ad cap kids.length cnt hk.hlen hle h9 W.heap.size w2.heap.size (w2.heap.size + 1) c0

theorem lpc_more (s : List Int) (f i : Nat) (h : f ≤ i) (hi : i < s.length) : lpc s f (i + 1) = lpc s f i ++ [s.getD i 0] := by
 unfold lpc
 rw [List.take_add_one,List.getElem?_eq_getElem hi,List.drop_append_of_le_length (by simp; omega)]
 simp [List.getD,hi]

theorem lpc_none (s : List Int) (i : Nat) : lpc s i i = [] := by unfold lpc; simp

theorem lpc_bd (s : List Int) (i k : Nat) (h : byts s) : byts (lpc s i k) := fun c hc => h c (List.mem_of_mem_take (List.mem_of_mem_drop hc))

theorem run_piece (s : List Int) (i k : Nat) (h1 : i ≤ k) (h2 : k ≤ s.length) : ∀ W,(Instr.slice 9 (.string (strOfNums s)) (some (.int .i64 (i : Int))) (some (.int .i64 (k : Int))) none).run Tryz.prog W = .ok (.string (strOfNums (lpc s i k))) W := fun W => by
 rw [run_cut (strOfNums s) i k _ _ rfl rfl h1 (by rw [strOfNums_size]; exact h2) W,str_cut]
 unfold lpc
 rw [List.drop_take]

theorem nsp_len : ∀ (s cur : List Int),(nsp cur s).length ≤ s.length + 1
 | [],cur => by simp [nsp]
 | c :: r,cur => by
  rw [nsp]
  split
  ·have := nsp_len r []; simp only [List.length_cons]; omega
  ·have := nsp_len r (cur ++ [c]); simp only [List.length_cons]; omega

theorem nsp_each : ∀ (s cur z : List Int),z ∈ nsp cur s → z.length ≤ cur.length + s.length
 | [],cur,z,h => by
  simp only [nsp,List.mem_cons,List.not_mem_nil,or_false] at h
  subst h; simp
 | c :: r,cur,z,h => by
  rw [nsp] at h
  by_cases k : c = 46
  ·rw [if_pos k] at h
   rcases List.mem_cons.1 h with h | h
   ·subst h; omega
   ·have := nsp_each r [] z h; simp only [List.length_nil,List.length_cons] at this ⊢; omega
  ·rw [if_neg k] at h
   have := nsp_each r (cur ++ [c]) z h
   simp only [List.length_append,List.length_cons,List.length_nil] at this ⊢
   omega

set_option maxHeartbeats 1000000 in
theorem rparts_any (s : List Int) (w : World) (hz : Hid (∀ i,0 ≤ s.getD i 0 ∧ s.getD i 0 ≤ 255)) (hlen : (s.length : Int) ≤ 100000) :
  Calls Tryz.prog 154 #[.string (strOfNums s)] w fun e w' => ∃ v,e = .returned v ∧ So w' w.heap.size v (nparts s) ∧ Below w.heap.size w w' := by
 obtain ⟨X,hX⟩ : ∃ X,X = strOfNums s := ⟨_,rfl⟩
 have hsz : X.size = s.length := by rw [hX]; exact strOfNums_size s
 have HA : Hid (∀ k,(h : k < s.length) → ((X[k]'(hsz ▸ h)).toNat : Int) = s.getD k 0) := fun k h => by subst hX; exact str_at s hz.out k _
 have HP : Hid (∀ i k,i ≤ k → k ≤ s.length → ∀ W,(Instr.slice 9 (.string X) (some (.int .i64 (i : Int))) (some (.int .i64 (k : Int))) none).run Tryz.prog W = .ok (.string (strOfNums (lpc s i k))) W) := fun i k h1 h2 => by subst hX; exact run_piece s i k h1 h2
 have HBy : Hid (byts s) := mem_bd hz.out
 rw [← hX]
 clear hX
 obtain ⟨R,hR⟩ : ∃ R,R = nparts s := ⟨_,rfl⟩
 rw [← hR]
 have HR : Hid (R = [] ++ nsp (lpc s 0 0) (s.drop 0)) := by show _ = _; rw [lpc_none,hR]; rfl
 clear hR
 go_enter Tryz.func154,Tryz.ntmps154
 go_wp2
 go_loopw [3,4,5] (fun v fv kv wr => ∃ (k fr : Nat) (o : List (List Int)),fv = .int .i64 (fr : Int) ∧ kv = .int .i64 (k : Int) ∧ o.length ≤ k ∧ k ≤ s.length + 1 ∧ Hid ((k ≤ s.length ∧ fr ≤ k ∧ R = o ++ nsp (lpc s fr k) (s.drop k)) ∨ (k = s.length + 1 ∧ R = o)) ∧ Hid (So wr w.heap.size v o) ∧ Hid (Below w.heap.size w wr)) (fun _ _ kv _ => s.length + 1 - (intOf kv).toNat)
 case atStart => exact ⟨0,0,[],rfl,rfl,by simp,by omega,.inl ⟨by omega,by omega,HR⟩,So.nil _ _,Below.refl _ _⟩
 case round =>
  obtain ⟨k,fr,o,rfl,rfl,hol,hk,HJ,HO,HB⟩ := hrel
  by_cases hkl : k ≤ s.length
  ·obtain ⟨_,hfk,HQ⟩ := HJ.out.resolve_right (fun h => by omega)
   have h1 := HP.out fr k hfk hkl
   have hpb := lpc_bd s fr k HBy.out
   obtain ⟨P,hP⟩ : ∃ P,P = lpc s fr k := ⟨_,rfl⟩
   rw [← hP] at h1 hpb HQ
   have HPb : Hid (byts P) := hpb
   have HPe : Hid (P = lpc s fr k) := hP
   have hn1 : o.length + 1 ≤ 1000000 := by omega
   have hbs := HB.out.size
   have HOA : Hid (So (wr.alloc (.cells #[.string (strOfNums P)] 9)) w.heap.size _ o) := HO.out.below ((Below.refl _ _).alloc (Nat.le_refl _) _)
   have HBA : Hid (Below w.heap.size w (wr.alloc (.cells #[.string (strOfNums P)] 9))) := HB.out.alloc hbs _
   have HCL : Hid ((wr.alloc (.cells #[.string (strOfNums P)] 9)).cell? ⟨wr.heap.size,0,none⟩ = some (scell P)) := str_cell wr _
   clear hP hpb
   by_cases hkz : k = s.length
   ·have HR2 : Hid (R = o ++ [P]) := by
     show _ = _
     rw [HQ,hkz,List.drop_length]
     rfl
    have hke : ((k : Int) == (s.length : Int)) = true := by rw [hkz]; simp
    have HKZ : Hid (k = s.length) := hkz
    clear HQ HJ HR hkz
    go_wp2_with (at_builtin; refine wpList_append_s rfl _ _ rfl w.heap.size _ o P wr.heap.size 1 rfl rfl HOA.out HPb.out HCL.out hn1 HBA.out.size ?_; intro v2 w2 hO2 hgrow2)
    have HB2 : Hid (Below w.heap.size w w2) := HOA.out.grown HBA.out HBA.out.size hgrow2
    go_roundw
    case rel => first | exact ⟨k + 1,k + 1,o ++ [P],by go_num,by go_num,by simp; omega,by omega,.inr ⟨by have := HKZ.out; omega,HR2⟩,hO2,HB2⟩ | ((repeat apply Exists.intro); exact ⟨⟨k + 1,k + 1,o ++ [P],by go_num,by go_num,by simp; omega,by omega,.inr ⟨by have := HKZ.out; omega,HR2⟩,hO2,HB2⟩,rfl⟩)
    case measure => simp [intOf]; omega
   ·have hke : ((k : Int) == (s.length : Int)) = false := by simp; omega
    have hat := HA.out k (by omega)
    have HQ' := HQ
    rw [drop_at (show k < s.length by omega),nsp] at HQ'
    have hmo := lpc_more s fr k hfk (by omega)
    rw [← HPe.out] at hmo
    by_cases h46 : s.getD k 0 = 46
    ·rw [if_pos h46] at HQ'
     rw [h46] at hat
     have HR2 : Hid (R = (o ++ [P]) ++ nsp (lpc s (k + 1) (k + 1)) (s.drop (k + 1))) := by show _ = _; rw [HQ',lpc_none]; simp
     clear HQ HQ' HJ HR hmo h46
     go_wp2_with (at_builtin; refine wpList_append_s rfl _ _ rfl w.heap.size _ o P wr.heap.size 1 rfl rfl HOA.out HPb.out HCL.out hn1 HBA.out.size ?_; intro v2 w2 hO2 hgrow2)
     have HB2 : Hid (Below w.heap.size w w2) := HOA.out.grown HBA.out HBA.out.size hgrow2
     go_roundw
     case rel => first | exact ⟨k + 1,k + 1,o ++ [P],by go_num,by go_num,by simp; omega,by omega,.inl ⟨by omega,by omega,HR2⟩,hO2,HB2⟩ | ((repeat apply Exists.intro); exact ⟨⟨k + 1,k + 1,o ++ [P],by go_num,by go_num,by simp; omega,by omega,.inl ⟨by omega,by omega,HR2⟩,hO2,HB2⟩,rfl⟩)
     case measure => simp [intOf]; omega
    ·rw [if_neg h46,← hmo] at HQ'
     have HR2 : Hid _ := HQ'
     generalize s.getD k 0 = c at hat h46
     have e46 : (c == 46) = false := by simpa using h46
     clear HQ HQ' HJ HR hmo
     go_wp2
     go_roundw
     case rel => first | exact ⟨k + 1,fr,o,rfl,by go_num,by omega,by omega,.inl ⟨by omega,by omega,HR2⟩,HO,HB⟩ | ((repeat apply Exists.intro); exact ⟨⟨k + 1,fr,o,rfl,by go_num,by omega,by omega,.inl ⟨by omega,by omega,HR2⟩,HO,HB⟩,rfl⟩)
     case measure => simp [intOf]; omega
  ·obtain rfl : k = s.length + 1 := by omega
   have E : Hid (R = o) := by
    rcases HJ.out with h | h
    ·omega
    ·exact h.2
   have hkl' : ¬ ((s.length + 1 : Nat) : Int) ≤ (s.length : Int) := by omega
   clear HJ
   go_wp2
   go_ret
   exact ⟨_,rfl,by rw [E.out]; exact HO.out,HB.out⟩

set_option maxHeartbeats 1000000 in
theorem rfull_any (s : List Int) (w : World) (hz : Hid (∀ i,0 ≤ s.getD i 0 ∧ s.getD i 0 ≤ 255)) (hlen : (s.length : Int) ≤ 100000) :
  Calls Tryz.prog 152 #[.string (strOfNums s)] w fun e w' => e = .returned (.bool (nfull s)) ∧ Below w.heap.size w w' := by
 have hsz := strOfNums_size s
 by_cases hbig : 1000 < s.length
 ·have hbig' : (1000 : Int) < (s.length : Int) := by omega
  have E : Hid (nfull s = false) := by show _ = _; unfold nfull; rw [decide_eq_false (by omega)]; rfl
  generalize strOfNums s = X at hsz
  go_enter Tryz.func152,Tryz.ntmps152
  go_wp2
  go_ret
  exact ⟨by rw [E.out]; rfl,Below.refl _ _⟩
 ·have hbig' : ¬ (1000 : Int) < (s.length : Int) := by omega
  have E0 : Hid (nfull s = (nparts s).all nident) := by show _ = _; unfold nfull; rw [decide_eq_true (by omega)]; rfl
  have Q : Hid _ := rparts_any s w hz hlen
  have hnl : (nparts s).length ≤ s.length + 1 := nsp_len s []
  have HLs : Hid (∀ z ∈ nparts s,(z.length : Int) ≤ 100000) := fun z hzm => by
   have := nsp_each s [] z hzm
   simp at this
   omega
  generalize nparts s = zs at Q E0 hnl HLs
  generalize strOfNums s = X at hsz Q
  go_enter Tryz.func152,Tryz.ntmps152
  go_wp2_with fail
  refine Calls.mono Q.out ?_
  rintro e w1 ⟨v,rfl,hO,hb1⟩
  obtain ⟨a,c,rfl⟩ := hO.slice
  obtain ⟨_,_,h3,h4,h5,h6⟩ := Ss.of_own hO
  have H5 : Hid (∀ z ∈ zs,byts z) := h5
  have H6 : Hid _ := h6
  clear h5 h6 hO
  go_wp2
  go_loopw [11] (fun v wr => ∃ k : Nat,v = .int .i64 (k : Int) ∧ k ≤ zs.length ∧ Hid (∀ j z,j < k → zs[j]? = some z → nident z = true) ∧ w1 = wr) (fun v _ => zs.length - (intOf v).toNat)
  case atStart => exact ⟨0,rfl,by omega,fun j z hj => absurd hj (by omega),rfl⟩
  case round =>
   obtain ⟨k,rfl,hk,HJ,rfl⟩ := hrel
   by_cases hkl : k < zs.length
   ·obtain ⟨b,off,rfl,hlt,hc⟩ := H6.out (by omega)
    obtain ⟨z,hz⟩ : ∃ z,zs[k]? = some z := ⟨zs[k]'hkl,List.getElem?_eq_getElem hkl⟩
    have hcell := hc k z hz
    unfold scell at hcell
    have hzm := List.mem_of_getElem? hz
    have q := fun W => rident_any z W (getD_bd (H5.out z hzm)) (by have := HLs.out z hzm; omega)
    by_cases hid : nident z = true
    ·rw [hid] at q
     have Q2 : Hid _ := q
     have HJ2 : Hid (∀ j z,j < k + 1 → zs[j]? = some z → nident z = true) := fun j y hj hy => by
      by_cases e : j = k
      ·rw [e,hz] at hy; rw [← Option.some.inj hy]; exact hid
      ·exact HJ.out j y (by omega) hy
     generalize strOfNums z = Z at hcell Q2
     clear q HJ hz hid hc hzm
     go_wp2_with fail
     refine Calls.mono (Q2.out _) ?_
     rintro e w2 ⟨rfl,rfl⟩
     go_wp2
     go_roundw
     case rel => first | exact ⟨k + 1,by go_num,by omega,HJ2,by first | rfl | trivial⟩ | ((repeat apply Exists.intro); exact ⟨⟨k + 1,by go_num,by omega,HJ2,by first | rfl | trivial⟩,rfl⟩)
     case measure => simp [intOf]; omega
    ·have hid' : nident z = false := by simpa using hid
     rw [hid'] at q
     have Q2 : Hid _ := q
     have E : Hid (nfull s = false) := by
      show _ = _
      rw [E0.out,List.all_eq_false]
      exact ⟨z,hzm,by rw [hid']; decide⟩
     generalize strOfNums z = Z at hcell Q2
     clear q HJ hz hid hid' hc hzm E0
     go_wp2_with fail
     refine Calls.mono (Q2.out _) ?_
     rintro e w2 ⟨rfl,rfl⟩
     go_wp2
     go_ret
     exact ⟨by rw [E.out]; rfl,hb1⟩
   ·obtain rfl : k = zs.length := by omega
    have E : Hid (nfull s = true) := by
     show _ = _
     rw [E0.out,List.all_eq_true]
     intro z hzm
     obtain ⟨j,hj⟩ := List.getElem?_of_mem hzm
     exact HJ.out j z (List.getElem?_eq_some_iff.1 hj).1 hj
    clear HJ E0
    go_wp2
    go_ret
    exact ⟨by rw [E.out]; rfl,hb1⟩

end Go.Proofs.YtlekfcehmlepkaaGreatDoor
