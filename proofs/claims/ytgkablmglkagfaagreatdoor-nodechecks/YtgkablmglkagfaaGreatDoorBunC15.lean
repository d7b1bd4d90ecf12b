/- Put together by a program out of these texts of mine: QShn, QPg, PAsk0, PSh, Ext, PAsk1, PAsk2, PAsk3, NStr2, NRef5, NPa, NPb. -/
import Derived.Shelf.Strconv.Itoa1
import Derived.Shelf.LaysM
import Derived.Shelf.Strconv.Itoa2
import Derived.Test.YtgkablmglkagfaaGreatDoorProg
import Derived.Lib.AppendIntMem
import Derived.Lib.ItoaLen
import Derived.Shelf.Small.Wraps
import Derived.Shelf.Strings.Cut
import Derived.Shelf.Strings.Prefix
import Derived.Shelf.Slices.Turned
import Derived.Deep.QuietTactic
import Derived.BigQuiet
import Derived.Lib.OthersKept
import Derived.Test.YtgkablmglkagfaaGreatDoorBunC2
import Derived.Test.YtgkablmglkagfaaGreatDoorBunC3
import Derived.Test.YtgkablmglkagfaaGreatDoorBunC4
import Derived.Test.YtgkablmglkagfaaGreatDoorBunC7
import Derived.Test.YtgkablmglkagfaaGreatDoorBunC14

/- Contracts of Go's own library at this program, each one application of the guide's: internal_strconv_small, internal_strconv_numDigits, internal_strconv_formatBase10. -/
namespace Go.Proofs.YtgkablmglkagfaaGreatDoor
open Go.Shelf

def Sh.lays283_ren : Go.Shelf.Ren := ⟨fun | 283 => 106 | n => n, fun | 3 => 3 | 9 => 9 | 4 => 4 | n => n, fun | n => n⟩

theorem Sh.lays283 : Go.Proofs.Lays.n283 Tryz.prog Sh.lays283_ren := {
  mixed := by kernel_rfl
  f283 := Tryz.func106.trans (congrArg some (by kernel_rfl))
  t3 := Tryz.underlying3
  a3 := Tryz.isAgg3
  z3 := Tryz.sizeOf3
  v3 := Tryz.zeroValue3
  t4 := Tryz.underlying4
  a4 := Tryz.isAgg4
  z4 := Tryz.sizeOf4
  v4 := Tryz.zeroValue4
  t9 := Tryz.underlying9
  a9 := Tryz.isAgg9
  z9 := Tryz.sizeOf9
  v9 := Tryz.zeroValue9 }

open Go.Lib in
theorem Sh.internal_strconv_small (i : Nat) (h : i < 100) (w : World) :
    Calls Tryz.prog 106 #[.int .i64 i] w fun e w' => e = .returned (.string ⟨(Lib.decDigits i).toArray⟩) ∧ w' = w := Any.internal_strconv_small Sh.lays283 i h w

def Sh.laysM284_ren : Go.Shelf.Ren := ⟨fun | 284 => 107 | 129 => 114 | 317 => 113 | 318 => 115 | n => n, fun | 53 => 39 | 3 => 3 | 212 => 85 | 0 => 0 | 4 => 4 | 46 => 72 | 5 => 5 | 9 => 9 | n => n, fun | 17 => 1 | n => n⟩

theorem Sh.laysM284 : Go.Proofs.LaysM.n284 Tryz.prog Sh.laysM284_ren := {
  mixed := by kernel_rfl
  f129 := Tryz.func114.trans (congrArg some (by kernel_rfl))
  f284 := Tryz.func107.trans (congrArg some (by kernel_rfl))
  f317 := Tryz.func113.trans (congrArg some (by kernel_rfl))
  f318 := Tryz.func115.trans (congrArg some (by kernel_rfl))
  t0 := Tryz.underlying0
  a0 := Tryz.isAgg0
  z0 := Tryz.sizeOf0
  v0 := Tryz.zeroValue0
  t3 := Tryz.underlying3
  a3 := Tryz.isAgg3
  z3 := Tryz.sizeOf3
  v3 := Tryz.zeroValue3
  t4 := Tryz.underlying4
  a4 := Tryz.isAgg4
  z4 := Tryz.sizeOf4
  v4 := Tryz.zeroValue4
  t5 := Tryz.underlying5
  a5 := Tryz.isAgg5
  z5 := Tryz.sizeOf5
  v5 := Tryz.zeroValue5
  t9 := Tryz.underlying9
  a9 := Tryz.isAgg9
  z9 := Tryz.sizeOf9
  v9 := Tryz.zeroValue9
  t46 := Tryz.underlying72
  a46 := Tryz.isAgg72
  z46 := Tryz.sizeOf72
  v46 := Tryz.zeroValue72
  t53 := Tryz.underlying39
  a53 := Tryz.isAgg39
  z53 := Tryz.sizeOf39
  v53 := Tryz.zeroValue39
  t212 := Tryz.underlying85
  a212 := Tryz.isAgg85
  z212 := Tryz.sizeOf85
  v212 := Tryz.zeroValue85
  g17 := by kernel_rfl
  i0 := by kernel_rfl
  i3 := by kernel_rfl
  i4 := by kernel_rfl
  i5 := by kernel_rfl
  i9 := by kernel_rfl
  i46 := by kernel_rfl
  i53 := by kernel_rfl
  i212 := by kernel_rfl
  m17 := by kernel_rfl }

open Go.Lib in
theorem Sh.internal_strconv_numDigits (u : Nat) (h1 : 1 ≤ u) (h2 : u < 18446744073709551616) (w : World) (htab : Lib.TabIs Tryz.prog w "internal/strconv.uint64pow10" .u64 Lib.pow10Tab) :
    Calls Tryz.prog 107 #[.int .u64 u] w fun e w' => e = .returned (.int .i64 (Lib.nDigits u)) ∧ w' = w := Any.internal_strconv_numDigits Sh.laysM284 u h1 h2 w htab

def Sh.lays285_ren : Go.Shelf.Ren := ⟨fun | 285 => 108 | n => n, fun | 37 => 77 | 53 => 39 | 3 => 3 | 4 => 4 | 51 => 81 | 9 => 9 | 5 => 5 | 0 => 0 | n => n, fun | n => n⟩

theorem Sh.lays285 : Go.Proofs.Lays.n285 Tryz.prog Sh.lays285_ren := {
  mixed := by kernel_rfl
  f285 := Tryz.func108.trans (congrArg some (by kernel_rfl))
  t0 := Tryz.underlying0
  a0 := Tryz.isAgg0
  z0 := Tryz.sizeOf0
  v0 := Tryz.zeroValue0
  t3 := Tryz.underlying3
  a3 := Tryz.isAgg3
  z3 := Tryz.sizeOf3
  v3 := Tryz.zeroValue3
  t4 := Tryz.underlying4
  a4 := Tryz.isAgg4
  z4 := Tryz.sizeOf4
  v4 := Tryz.zeroValue4
  t5 := Tryz.underlying5
  a5 := Tryz.isAgg5
  z5 := Tryz.sizeOf5
  v5 := Tryz.zeroValue5
  t9 := Tryz.underlying9
  a9 := Tryz.isAgg9
  z9 := Tryz.sizeOf9
  v9 := Tryz.zeroValue9
  t37 := Tryz.underlying77
  a37 := Tryz.isAgg77
  z37 := Tryz.sizeOf77
  v37 := Tryz.zeroValue77
  t51 := Tryz.underlying81
  a51 := Tryz.isAgg81
  z51 := Tryz.sizeOf81
  v51 := Tryz.zeroValue81
  t53 := Tryz.underlying39
  a53 := Tryz.isAgg39
  z53 := Tryz.sizeOf39
  v53 := Tryz.zeroValue39 }

open Go.RowKit Go.Sort Go.Lib in
theorem Sh.internal_strconv_formatBase10 (blk off cap : Nat) (u : Nat) (d : Array UInt8) (w : World) (hH : Holds (fun (b : UInt8) => Value.int .u8 (b.toNat : Int)) w blk off d) (hu : u < 10 ^ d.size) (hu64 : u < 18446744073709551616) (hsz : d.size < 4611686018427387904) :
    Calls Tryz.prog 108 #[.slice (some ⟨blk, off, none⟩) d.size cap, .int .u64 u] w fun e w' =>
      e = .returned (.tuple #[]) ∧ ∃ (n v' : Nat) (dk : Array UInt8), w' = (putRow (fun (b : UInt8) => Value.int .u8 (b.toNat : Int)) w blk off dk).drewN n ∧ FmtInv d.size u 0 v' dk := Any.internal_strconv_formatBase10 Sh.lays285 blk off cap u d w hH hu hu64 hsz

end Go.Proofs.YtgkablmglkagfaaGreatDoor

/- The contract of the program's own quote.Digits (strconv.FormatUint at base 10), over the turned text. -/
namespace Go.Proofs.YtgkablmglkagfaaGreatDoor
open Go.RowKit Go.Sort
set_option linter.unusedVariables false
set_option linter.unusedSimpArgs false

/-- The table of powers reads so. -/
def PTab (w : World) : Prop := Lib.TabIs Tryz.prog w "internal/strconv.uint64pow10" .u64 Lib.pow10Tab

theorem PTab.below {w w' : World} (h : PTab w) {B : Nat} (hb : Below B w w') (hB : w.heap.size ≤ B) : PTab w' :=
  Lib.tabBelow_of_tabIs h w' (hb.mono hB)

/-- The guide's decimal digits are the plain function's. -/
theorem dec_qdg : ∀ (f u : Nat), u < 10 ^ (f + 1) → Lib.decDigits u = (qdg (f + 1) (u : Int)).map fun n => UInt8.ofNat n.toNat
  | 0, u, h => by
    have h10 : u < 10 := by simpa using h
    rw [qdg, if_pos (by omega), Lib.decDigits_one h10]
    simp only [List.map_cons, List.map_nil]
    congr 2
  | f + 1, u, h => by
    rw [qdg]
    by_cases h10 : u < 10
    · rw [if_pos (by omega), Lib.decDigits_one h10]
      simp only [List.map_cons, List.map_nil]
      congr 2
    · have := dec_qdg f (u / 10) (by rw [Nat.pow_succ] at h; omega)
      rw [if_neg (by omega), Lib.decDigits, dif_neg h10, this]
      simp only [List.map_append, List.map_cons, List.map_nil]
      congr 3

theorem dec_str (u : Nat) (h : u < 18446744073709551616) : (⟨(Lib.decDigits u).toArray⟩ : ByteArray) = strOfNums (qdg 20 (u : Int)) := by
  apply ByteArray.ext
  apply Array.ext'
  rw [strOfNums_data, dec_qdg 19 u (Nat.lt_of_lt_of_le h (by decide))]

set_option maxHeartbeats 1000000 in
theorem pfu_small (u : Nat) (hu : u < 100) (w : World) :
    Calls Tryz.prog 95 #[.int .u64 (u : Int), .int .i64 10] w fun e w' => e = .returned (.string ⟨(Lib.decDigits u).toArray⟩) ∧ Below w.heap.size w w' := by
  have hu' : (u : Int) < 100 := by omega
  have q := fun W => Sh.internal_strconv_small u hu W
  have Q : Hid _ := q
  clear q
  go_enter Tryz.func95, Tryz.ntmps95
  go_wp2_with fail
  refine Calls.mono (Q.out _) ?_
  rintro e w1 ⟨rfl, rfl⟩
  go_wp2
  go_ret
  exact ⟨rfl, Below.refl _ _⟩

set_option maxHeartbeats 2000000 in
set_option maxRecDepth 100000 in
theorem pfu_big (u : Nat) (hu : 100 ≤ u) (hu64 : u < 18446744073709551616) (w : World) (htab : PTab w) :
    Calls Tryz.prog 95 #[.int .u64 (u : Int), .int .i64 10] w fun e w' => e = .returned (.string ⟨(Lib.decDigits u).toArray⟩) ∧ Below w.heap.size w w' := by
  have hu1 : 1 ≤ u := by omega
  have hnd20 : Lib.nDigits u ≤ 20 := Lib.nDigits_le20 u hu64
  have hal : Tryz.prog.arrayLen 74 = 24 := by kernel_rfl
  have hsl : ∀ W, (Instr.sliceAt 74 (.pointer (some ⟨w.heap.size, 0, none⟩)) none (some (.int .i64 (Lib.nDigits u : Int))) none).run Tryz.prog W = .ok (.slice (some ⟨w.heap.size, 0, none⟩) (Lib.nDigits u) 24) W := fun W => by
    rw [run_sliceAt_array_h W 74 ⟨w.heap.size, 0, none⟩ (by kernel_rfl) .i64 (Lib.nDigits u : Int) (by omega) (by rw [hal]; omega)]
    go_simp
  have hH0 := Lib.holds_zero0 w 74 (Lib.nDigits u) (by omega)
  have hfmt := Sh.internal_strconv_formatBase10 w.heap.size 0 24 u (Array.replicate (Lib.nDigits u) 0) (w.alloc (.cells Lib.zeros24 74)) hH0 (by rw [Array.size_replicate]; exact Lib.lt_pow_nDigits u) hu64 (by rw [Array.size_replicate]; omega)
  rw [Array.size_replicate] at hfmt
  have HH0 := Lib.hid hH0
  have iu : ¬ (u : Int) < 100 := by omega
  have hnum := Sh.internal_strconv_numDigits u hu1 hu64 (w.alloc (.cells Lib.zeros24 74)) (Lib.tabIs_alloc htab _)
  have HN : Hid _ := hnum
  have HF : Hid _ := hfmt
  clear hH0 hal hnum hfmt
  go_enter Tryz.func95, Tryz.ntmps95
  go_wp2_with fail
  refine Calls.mono HN.out ?_
  rintro e w' ⟨rfl, rfl⟩
  go_wp2_with fail
  refine Calls.mono HF.out ?_
  rintro e w' ⟨rfl, k, v', dk, rfl, hF⟩
  have hcv : (convert 77 9 (.slice (some ⟨w.heap.size, 0, none⟩) (Lib.nDigits u) 24)).run Tryz.prog ((putRow (fun (b : UInt8) => Value.int .u8 (b.toNat : Int)) (w.alloc (.cells Lib.zeros24 74)) w.heap.size 0 dk).drewN k) = .ok (.string ⟨(Lib.decDigits u).toArray⟩) ((putRow (fun (b : UInt8) => Value.int .u8 (b.toNat : Int)) (w.alloc (.cells Lib.zeros24 74)) w.heap.size 0 dk).drewN k) := by
    have h := run_convert_bytes_back (P := Tryz.prog) ((putRow (fun (b : UInt8) => Value.int .u8 (b.toNat : Int)) (w.alloc (.cells Lib.zeros24 74)) w.heap.size 0 dk).drewN k) 77 9 5 ⟨w.heap.size, 0, none⟩ 24 (Lib.decDigits u) Tryz.underlying77 Tryz.underlying5 Tryz.underlying9 (fun j hj => by
      rw [Lib.row_is_numeral hF j hj, Lib.add_plain, World.cell?_drewN]
      exact cell?_putRow (fun (b : UInt8) => Value.int .u8 (b.toNat : Int)) _ w.heap.size 0 _ dk HH0.out (by rw [hF.size, Array.size_replicate]) j (by rw [hF.size]; rw [Lib.decDigits_length] at hj; exact hj))
    rw [Lib.decDigits_length] at h
    exact h
  obtain ⟨os, eo⟩ := Lib.fin_at w (.cells Lib.zeros24 74) dk k 0
  have hB : Below w.heap.size w ((putRow (fun (b : UInt8) => Value.int .u8 (b.toNat : Int)) (w.alloc (.cells Lib.zeros24 74)) w.heap.size 0 dk).drewN k) := by rw [eo]; exact Lib.below_grow _ w (Nat.le_refl _) k os
  generalize (putRow (fun (b : UInt8) => Value.int .u8 (b.toNat : Int)) (w.alloc (.cells Lib.zeros24 74)) w.heap.size 0 dk).drewN k = W2 at hcv hB ⊢
  clear eo HH0 HF HN
  go_wp2
  go_ret
  exact ⟨rfl, hB⟩

set_option maxHeartbeats 1000000 in
theorem pdig_any (N : Int) (w : World) (hT : Hid (PTab w)) (h0 : 0 ≤ N) (h1 : N ≤ 18446744073709551615) :
    Calls Tryz.prog 66 #[.int .u64 N] w fun e w' => e = .returned (.string (strOfNums (qdg 20 N))) ∧ Below w.heap.size w w' := by
  obtain ⟨u, rfl⟩ : ∃ u : Nat, N = (u : Int) := ⟨N.toNat, by omega⟩
  have q : Calls Tryz.prog 95 #[.int .u64 (u : Int), .int .i64 10] w fun e w' => e = .returned (.string (strOfNums (qdg 20 (u : Int)))) ∧ Below w.heap.size w w' := by
    rw [← dec_str u (by omega)]
    by_cases hu : u < 100
    · exact pfu_small u hu w
    · exact pfu_big u (by omega) (by omega) w hT.out
  generalize strOfNums (qdg 20 (u : Int)) = S at q ⊢
  have Q : Hid _ := q
  clear q
  go_enter Tryz.func66, Tryz.ntmps66
  go_wp2_with fail
  go_in
  go_wp2_with fail
  refine Calls.mono Q.out ?_
  rintro e w1 ⟨rfl, hb⟩
  go_wp2
  go_ret
  exact ⟨rfl, hb⟩

end Go.Proofs.YtgkablmglkagfaaGreatDoor

/- Function values that ask nodes, and lists of nodes; the program's own each over one that only asks. -/
namespace Go.Proofs.YtgkablmglkagfaaGreatDoor
open Go.RowKit
set_option linter.unusedVariables false
set_option linter.unusedSimpArgs false

/-- What the road's tables hold: the powers of ten, and some number in internal/bytealg.MaxLen. -/
def TTab (w : World) : Prop := PTab w ∧ ∃ m, w.cell? ⟨0, 0, none⟩ = some (.int .i64 m)

theorem cell_lt7 {w : World} {p : Addr} {v : Value} (h : w.cell? p = some v) : p.block < w.heap.size := by
  rcases Nat.lt_or_ge p.block w.heap.size with h' | h'
  · exact h'
  · simp [World.cell?, Array.getElem?_eq_none h'] at h

theorem TTab.below {w w' : World} (h : TTab w) {B : Nat} (hb : Below B w w') (hB : w.heap.size ≤ B) : TTab w' := by
  obtain ⟨h1, m, h2⟩ := h
  exact ⟨h1.below hb hB, m, (hb.cell (Nat.lt_of_lt_of_le (cell_lt7 h2) hB)).trans h2⟩

/-- V has w's blocks from B on, as they were. -/
structure Sin (B : Nat) (w V : World) : Prop where
  size : w.heap.size ≤ V.heap.size
  block : ∀ k, B ≤ k → k < w.heap.size → V.heap[k]? = w.heap[k]?

theorem Sin.refl (B : Nat) (w : World) : Sin B w w := ⟨Nat.le_refl _, fun _ _ _ => rfl⟩

theorem Sin.of {B n : Nat} {w V : World} (h : Below n w V) (hn : w.heap.size ≤ n) : Sin B w V := ⟨h.size, fun k _ hk => h.block k (Nat.lt_of_lt_of_le hk hn)⟩

theorem Sin.trans {B : Nat} {w V U : World} (h : Sin B w V) (g : Sin B V U) : Sin B w U := ⟨Nat.le_trans h.size g.size, fun k h1 h2 => (g.block k h1 (Nat.lt_of_lt_of_le h2 h.size)).trans (h.block k h1 h2)⟩

theorem Sin.mono {B B' : Nat} {w V : World} (h : Sin B w V) (hB : B ≤ B') : Sin B' w V := ⟨h.size, fun k h1 h2 => h.block k (Nat.le_trans hB h1) h2⟩

/-- f asks a node p, in every world that has w's blocks from B on. -/
def AskN (B : Nat) (w : World) (f : Value) (p : Tn → Bool) : Prop :=
  ∃ k caps, f = .func (.func k) #[] caps ∧ Goin k ∧ ∀ (V : World) (t : Tn), Sin B w V → TTab V → TnOk V t → TnShort t → Calls Tryz.prog k (#[t.val] ++ caps) V fun e V' => e = .returned (.bool (p t)) ∧ Below V.heap.size V V'

/-- f asks a list of nodes p. -/
def AskL (B : Nat) (w : World) (f : Value) (p : List Tn → Bool) : Prop :=
  ∃ k caps, f = .func (.func k) #[] caps ∧ Goin k ∧ ∀ (V : World) (ad : Option Addr) (cap : Nat) (kids : List Tn), Sin B w V → TTab V → Kl V ad cap kids → (∀ (i : Nat) (t : Tn), kids[i]? = some t → TnShort t) → Calls Tryz.prog k (#[.slice ad kids.length cap] ++ caps) V fun e V' => e = .returned (.bool (p kids)) ∧ Below V.heap.size V V'

theorem AskN.sin {B : Nat} {w V : World} {f : Value} {p : Tn → Bool} (h : AskN B w f p) (hs : Sin B w V) : AskN B V f p := by
  obtain ⟨k, caps, h1, h2, h3⟩ := h
  exact ⟨k, caps, h1, h2, fun U t hU => h3 U t (hs.trans hU)⟩

theorem AskN.less {B B' : Nat} {w : World} {f : Value} {p : Tn → Bool} (h : AskN B w f p) (hB : B' ≤ B) : AskN B' w f p := by
  obtain ⟨k, caps, h1, h2, h3⟩ := h
  exact ⟨k, caps, h1, h2, fun U t hU => h3 U t (hU.mono hB)⟩

theorem AskL.sin {B : Nat} {w V : World} {f : Value} {p : List Tn → Bool} (h : AskL B w f p) (hs : Sin B w V) : AskL B V f p := by
  obtain ⟨k, caps, h1, h2, h3⟩ := h
  exact ⟨k, caps, h1, h2, fun U ad cap kids hU => h3 U ad cap kids (hs.trans hU)⟩

theorem AskL.less {B B' : Nat} {w : World} {f : Value} {p : List Tn → Bool} (h : AskL B w f p) (hB : B' ≤ B) : AskL B' w f p := by
  obtain ⟨k, caps, h1, h2, h3⟩ := h
  exact ⟨k, caps, h1, h2, fun U ad cap kids hU => h3 U ad cap kids (hU.mono hB)⟩

theorem all_drop {p : Tn → Bool} {kids : List Tn} {i : Nat} {t : Tn} (hi : kids[i]? = some t) : (kids.drop i).all p = (p t && (kids.drop (i + 1)).all p) := by
  have hil : i < kids.length := (List.getElem?_eq_some_iff.1 hi).1
  rw [List.drop_eq_getElem_cons hil, show kids[i] = t by rw [List.getElem?_eq_getElem hil] at hi; exact Option.some.inj hi, List.all_cons]

theorem peach_ask {V : World} {ad : Option Addr} {cap : Nat} {kids : List Tn} (hk : Kl V ad cap kids) (kf : FuncId) (hin : Goin kf) (caps : Array Value) (p : Tn → Bool)
    (hf : ∀ (i : Nat) (t : Tn), kids[i]? = some t → ∀ U, Below V.heap.size V U → Calls Tryz.prog kf (#[t.val] ++ caps) U fun e U' => e = .returned (.bool (p t)) ∧ Below U.heap.size U U') :
    Calls Tryz.prog 14 #[.slice ad kids.length cap, .func (.func kf) #[] caps] V fun e V' => e = .returned (.bool (kids.all p)) ∧ Below V.heap.size V V' := by
  refine (peach_any hk kf hin caps (fun i U => Below V.heap.size V U ∧ kids.all p = (kids.drop i).all p) (fun U => kids.all p = false ∧ Below V.heap.size V U) (fun i U h => h.1) (fun i U U' h hb => ⟨h.1.trans (hb.mono h.1.size), h.2⟩) ?_ V ⟨Below.refl _ _, rfl⟩).mono ?_
  · intro i t hi U hU
    refine (hf i t hi U hU.1).mono ?_
    rintro e U' ⟨rfl, hb⟩
    have h2 := hU.2
    rw [all_drop hi] at h2
    cases hp : p t with
    | true => rw [hp, Bool.true_and] at h2; exact .inl ⟨rfl, hU.1.trans (hb.mono hU.1.size), h2⟩
    | false => rw [hp, Bool.false_and] at h2; exact .inr ⟨rfl, h2, hU.1.trans (hb.mono hU.1.size)⟩
  · rintro e U (⟨rfl, h1, h2⟩ | ⟨rfl, h1, h2⟩)
    · rw [List.drop_length] at h2
      exact ⟨by rw [h2]; rfl, h1⟩
    · exact ⟨by rw [h1], h2⟩

end Go.Proofs.YtgkablmglkagfaaGreatDoor

/- Contracts of Go's own library at this program, each one application of the guide's: strings_CutPrefix, strings_Cut, strings_HasSuffix, strings_TrimPrefix, slices_Contains_int, slices_Contains_int_empty. -/
namespace Go.Proofs.YtgkablmglkagfaaGreatDoor
open Go.Shelf

def Sh.lays103_ren : Go.Shelf.Ren := ⟨fun | 103 => 59 | 210 => 76 | 206 => 74 | n => n, fun | 9 => 9 | 4 => 4 | 24 => 47 | 3 => 3 | n => n, fun | n => n⟩

theorem Sh.lays103 : Go.Proofs.Lays.n103 Tryz.prog Sh.lays103_ren := {
  mixed := by kernel_rfl
  f103 := Tryz.func59.trans (congrArg some (by kernel_rfl))
  f206 := Tryz.func74.trans (congrArg some (by kernel_rfl))
  f210 := Tryz.func76.trans (congrArg some (by kernel_rfl))
  t3 := Tryz.underlying3
  a3 := Tryz.isAgg3
  z3 := Tryz.sizeOf3
  v3 := Tryz.zeroValue3
  t4 := Tryz.underlying4
  a4 := Tryz.isAgg4
  z4 := Tryz.sizeOf4
  v4 := Tryz.zeroValue4
  t9 := Tryz.underlying9
  a9 := Tryz.isAgg9
  z9 := Tryz.sizeOf9
  v9 := Tryz.zeroValue9
  t24 := Tryz.underlying47
  a24 := Tryz.isAgg47
  z24 := Tryz.sizeOf47
  v24 := Tryz.zeroValue47 }

open Go.RowKit in
theorem Sh.strings_CutPrefix (s p : ByteArray) (w : World) :
    Calls Tryz.prog 59 #[.string s, .string p] w fun e w' => e = .returned (.tuple #[.string ⟨(Lib.trimPrefix s.data.toList p.data.toList).toArray⟩, .bool (Lib.hasPrefix s.data.toList p.data.toList)]) ∧ w' = w := Any.strings_CutPrefix Sh.lays103 s p w

def Sh.lays145_ren : Go.Shelf.Ren := ⟨fun | 145 => 60 | 220 => 77 | 219 => 92 | 217 => 102 | 225 => 103 | 224 => 104 | 267 => 105 | 266 => 111 | 314 => 112 | n => n, fun | 9 => 9 | 4 => 4 | 59 => 49 | 3 => 3 | 5 => 5 | 46 => 72 | 146 => 82 | 51 => 81 | n => n, fun | 1 => 0 | n => n⟩

theorem Sh.lays145 : Go.Proofs.Lays.n145 Tryz.prog Sh.lays145_ren := {
  mixed := by kernel_rfl
  f145 := Tryz.func60.trans (congrArg some (by kernel_rfl))
  f217 := Tryz.func102.trans (congrArg some (by kernel_rfl))
  f219 := Tryz.func92.trans (congrArg some (by kernel_rfl))
  f220 := Tryz.func77.trans (congrArg some (by kernel_rfl))
  f224 := Tryz.func104.trans (congrArg some (by kernel_rfl))
  f225 := Tryz.func103.trans (congrArg some (by kernel_rfl))
  f266 := Tryz.func111.trans (congrArg some (by kernel_rfl))
  f267 := Tryz.func105.trans (congrArg some (by kernel_rfl))
  f314 := Tryz.func112.trans (congrArg some (by kernel_rfl))
  t3 := Tryz.underlying3
  a3 := Tryz.isAgg3
  z3 := Tryz.sizeOf3
  v3 := Tryz.zeroValue3
  t4 := Tryz.underlying4
  a4 := Tryz.isAgg4
  z4 := Tryz.sizeOf4
  v4 := Tryz.zeroValue4
  t5 := Tryz.underlying5
  a5 := Tryz.isAgg5
  z5 := Tryz.sizeOf5
  v5 := Tryz.zeroValue5
  t9 := Tryz.underlying9
  a9 := Tryz.isAgg9
  z9 := Tryz.sizeOf9
  v9 := Tryz.zeroValue9
  t46 := Tryz.underlying72
  a46 := Tryz.isAgg72
  z46 := Tryz.sizeOf72
  v46 := Tryz.zeroValue72
  t51 := Tryz.underlying81
  a51 := Tryz.isAgg81
  z51 := Tryz.sizeOf81
  v51 := Tryz.zeroValue81
  t59 := Tryz.underlying49
  a59 := Tryz.isAgg49
  z59 := Tryz.sizeOf49
  v59 := Tryz.zeroValue49
  t146 := Tryz.underlying82
  a146 := Tryz.isAgg82
  z146 := Tryz.sizeOf82
  v146 := Tryz.zeroValue82
  g1 := by kernel_rfl }

open Go.RowKit Go.Lib in
theorem Sh.strings_Cut (s sep : ByteArray) (m : Int) (w : World) (hs : s.size < 4294967281) (hm : w.cell? ⟨0, 0, none⟩ = some (.int .i64 m)) :
    Calls Tryz.prog 60 #[.string s, .string sep] w fun e w' => e = .returned (.tuple #[.string ⟨(Lib.cut s.data.toList sep.data.toList).1.toArray⟩, .string ⟨(Lib.cut s.data.toList sep.data.toList).2.1.toArray⟩, .bool (Lib.cut s.data.toList sep.data.toList).2.2]) ∧ ∃ n, w' = w.drewN n := Any.strings_Cut Sh.lays145 s sep m w hs hm

def Sh.lays100_ren : Go.Shelf.Ren := ⟨fun | 100 => 67 | 207 => 82 | n => n, fun | 9 => 9 | 4 => 4 | 3 => 3 | n => n, fun | n => n⟩

theorem Sh.lays100 : Go.Proofs.Lays.n100 Tryz.prog Sh.lays100_ren := {
  mixed := by kernel_rfl
  f100 := Tryz.func67.trans (congrArg some (by kernel_rfl))
  f207 := Tryz.func82.trans (congrArg some (by kernel_rfl))
  t3 := Tryz.underlying3
  a3 := Tryz.isAgg3
  z3 := Tryz.sizeOf3
  v3 := Tryz.zeroValue3
  t4 := Tryz.underlying4
  a4 := Tryz.isAgg4
  z4 := Tryz.sizeOf4
  v4 := Tryz.zeroValue4
  t9 := Tryz.underlying9
  a9 := Tryz.isAgg9
  z9 := Tryz.sizeOf9
  v9 := Tryz.zeroValue9 }

open Go.RowKit Go.Lib in
theorem Sh.strings_HasSuffix (s p : ByteArray) (w : World) (hs : s.size ≤ 9223372036854775807) :
    Calls Tryz.prog 67 #[.string s, .string p] w fun e w' => e = .returned (.bool (Lib.hasSuffix s.data.toList p.data.toList)) ∧ w' = w := Any.strings_HasSuffix Sh.lays100 s p w hs

def Sh.lays101_ren : Go.Shelf.Ren := ⟨fun | 101 => 24 | 208 => 54 | 206 => 74 | n => n, fun | 9 => 9 | 4 => 4 | 3 => 3 | n => n, fun | n => n⟩

theorem Sh.lays101 : Go.Proofs.Lays.n101 Tryz.prog Sh.lays101_ren := {
  mixed := by kernel_rfl
  f101 := Tryz.func24.trans (congrArg some (by kernel_rfl))
  f206 := Tryz.func74.trans (congrArg some (by kernel_rfl))
  f208 := Tryz.func54.trans (congrArg some (by kernel_rfl))
  t3 := Tryz.underlying3
  a3 := Tryz.isAgg3
  z3 := Tryz.sizeOf3
  v3 := Tryz.zeroValue3
  t4 := Tryz.underlying4
  a4 := Tryz.isAgg4
  z4 := Tryz.sizeOf4
  v4 := Tryz.zeroValue4
  t9 := Tryz.underlying9
  a9 := Tryz.isAgg9
  z9 := Tryz.sizeOf9
  v9 := Tryz.zeroValue9 }

open Go.RowKit Go.Lib in
theorem Sh.strings_TrimPrefix (s p : ByteArray) (w : World) :
    Calls Tryz.prog 24 #[.string s, .string p] w fun e w' => e = .returned (.string ⟨(Lib.trimPrefix s.data.toList p.data.toList).toArray⟩) ∧ w' = w := Any.strings_TrimPrefix Sh.lays101 s p w

def Sh.lays107_ren : Go.Shelf.Ren := ⟨fun | 107 => 57 | 108 => 75 | n => n, fun | 28 => 45 | 3 => 3 | 4 => 4 | 0 => 0 | n => n, fun | n => n⟩

theorem Sh.lays107 : Go.Proofs.Lays.n107 Tryz.prog Sh.lays107_ren := {
  mixed := by kernel_rfl
  f107 := Tryz.func57.trans (congrArg some (by kernel_rfl))
  f108 := Tryz.func75.trans (congrArg some (by kernel_rfl))
  t0 := Tryz.underlying0
  a0 := Tryz.isAgg0
  z0 := Tryz.sizeOf0
  v0 := Tryz.zeroValue0
  t3 := Tryz.underlying3
  a3 := Tryz.isAgg3
  z3 := Tryz.sizeOf3
  v3 := Tryz.zeroValue3
  t4 := Tryz.underlying4
  a4 := Tryz.isAgg4
  z4 := Tryz.sizeOf4
  v4 := Tryz.zeroValue4
  t28 := Tryz.underlying45
  a28 := Tryz.isAgg45
  z28 := Tryz.sizeOf45
  v28 := Tryz.zeroValue45 }

open Go.Lib in
theorem Sh.slices_Contains_int (b off n c : Nat) (zs : List Int) (x : Int) (w : World) (hz : n ≤ zs.length) (hbig : n ≤ 9223372036854775807) (hc : ∀ j, j < zs.length → w.cell? ⟨b, off + j, none⟩ = some (.int .i64 (zs.getD j 0))) :
    Calls Tryz.prog 57 #[.slice (some ⟨b, off, none⟩) n c, .int .i64 x] w fun e w' => e = .returned (.bool ((zs.take n).contains x)) ∧ w' = w := Any.slices_Contains_int Sh.lays107 b off n c zs x w hz hbig hc

open Go.Lib in
theorem Sh.slices_Contains_int_empty (a : Option Addr) (c : Nat) (x : Int) (w : World) :
    Calls Tryz.prog 57 #[.slice a 0 c, .int .i64 x] w fun e w' => e = .returned (.bool false) ∧ w' = w := Any.slices_Contains_int_empty Sh.lays107 a c x w

end Go.Proofs.YtgkablmglkagfaaGreatDoor

/- A region that draws its order, whose own operations only read what lay there ahead of it and whose calls leave that alone: one walk in the order of the text serves every order. -/
namespace Go.Proofs.YtgkablmglkagfaaGreatDoor
open Go.RowKit

/-- A world that has more than W0 has, and all of that as it was. -/
structure Ext (W0 : World) where
  val : World
  ok : Below W0.heap.size W0 val

instance (W0 : World) : Nonempty (Ext W0) := ⟨⟨W0, Below.refl _ _⟩⟩

theorem wp_region_ext {P : Program} {id : Nat} {Q : Exit → Act → World → Prop} {a : Act} {w : World} {l : List Oper} (W0 : World) (h0 : Below W0.heap.size W0 w) (hm : P.follows .mixedOrders = true) (hB : Region.lexB .any l.toArray = true)
    (h : wpQuiet P l.toArray (fun w' => ∃ x : Ext W0, w' = x.val) (fun a' => ∀ w', (∃ x : Ext W0, w' = x.val) → Q .normal a' w') l a) : (Code.region id l.toArray true).wp P Q a w :=
  wp_region_quiet (C := fun w' => ∃ x : Ext W0, w' = x.val) hm hB ⟨⟨_, h0.drew⟩, rfl⟩ (by simpa using h)

theorem Ext.call {P : Program} {W0 : World} {f : FuncId} {args : Array Value} {v : Value} (q : ∀ V, Below W0.heap.size W0 V → Calls P f args V fun e W' => e = .returned v ∧ Below V.heap.size V W') (x : Ext W0) :
    Calls P f args x.val fun e w'' => e = .returned v ∧ ∃ y : Ext W0, w'' = y.val :=
  (q x.val x.ok).mono fun _ w'' ⟨he, hb⟩ => ⟨he, ⟨w'', x.ok.trans (hb.mono x.ok.size)⟩, rfl⟩

/-- .. of a callee that leaves the world as it is. -/
theorem Ext.call_same {P : Program} {W0 : World} {f : FuncId} {args : Array Value} {v : Value} (q : ∀ V, Calls P f args V fun e W' => e = .returned v ∧ V = W') (x : Ext W0) :
    Calls P f args x.val fun e w'' => e = .returned v ∧ ∃ y : Ext W0, w'' = y.val :=
  (q x.val).mono fun _ _ ⟨he, hb⟩ => ⟨he, x, hb.symm⟩

theorem Ext.cell {W0 : World} (x : Ext W0) {p : Addr} (hp : p.block < W0.heap.size) {v : Value} (h : W0.cell? p = some v) : x.val.cell? p = some v := (x.ok.cell hp).trans h

end Go.Proofs.YtgkablmglkagfaaGreatDoor

/- The contracts of the program's own only, some, typed, and of the closures that they answer. -/
namespace Go.Proofs.YtgkablmglkagfaaGreatDoor
open Go.RowKit
set_option linter.unusedVariables false
set_option linter.unusedSimpArgs false

/-- Numbers that lie in a block. -/
def Ib (w : World) (b : Nat) (zs : List Int) : Prop := ∀ j, j < zs.length → w.cell? ⟨b, 0 + j, none⟩ = some (.int .i64 (zs.getD j 0))

theorem Ib.of_block {w V : World} {b : Nat} {zs : List Int} (h : Ib w b zs) (hb : V.heap[b]? = w.heap[b]?) : Ib V b zs := fun j hj => by
  rw [← h j hj]; simp [World.cell?, hb]

set_option maxRecDepth 10000 in
set_option maxHeartbeats 1000000 in
theorem ponly1_any (t : Tn) (V : World) (g b c : Nat) (zs : List Int) (hz : zs.length ≤ 100) (hg : V.heap[g]? = some (.cells #[.slice (some ⟨b, 0, none⟩) zs.length c] 45 (0, 0))) (hi : Ib V b zs) (hb : b < V.heap.size) :
    Calls Tryz.prog 56 #[t.val, .pointer (some ⟨g, 0, none⟩)] V fun e V' => e = .returned (.bool (zs.contains t.kind)) ∧ Below V.heap.size V V' := by
  obtain ⟨kind, text, n, m, a, pos, doc, ad, cap, kids⟩ := t
  change Calls Tryz.prog 56 #[.agg #[.int .i64 kind, .string (strOfNums text), .int .i64 n, .int .i64 m, .int .i64 a, .int .i64 pos, .string (strOfNums doc), .slice ad kids.length cap], .pointer (some ⟨g, 0, none⟩)] V fun e V' => e = .returned (.bool (zs.contains kind)) ∧ Below V.heap.size V V'
  generalize strOfNums text = T1
  generalize strOfNums doc = T2
  have hc := one_cell_of hg
  have hlt := one_lt hg
  have HBA : Hid (Below V.heap.size V (V.alloc (.cells #[.int .i64 kind, .string T1, .int .i64 n, .int .i64 m, .int .i64 a, .int .i64 pos, .string T2, .slice ad kids.length cap] 24))) := (Below.refl _ _).alloc (Nat.le_refl _) _
  have q := Sh.slices_Contains_int b 0 zs.length c zs kind (V.alloc (.cells #[.int .i64 kind, .string T1, .int .i64 n, .int .i64 m, .int .i64 a, .int .i64 pos, .string T2, .slice ad kids.length cap] 24)) (Nat.le_refl _) (by omega) (hi.of_block (HBA.out.block _ hb))
  rw [List.take_length] at q
  generalize zs.contains kind = R at q ⊢
  generalize zs.length = N at *
  have Q : Hid _ := q
  clear q hi hg
  go_enter Tryz.func56, Tryz.ntmps56
  go_wp2_with fail
  refine Calls.mono Q.out ?_
  rintro e w1 ⟨rfl, rfl⟩
  go_wp2
  go_ret
  exact ⟨rfl, HBA.out⟩

set_option maxRecDepth 10000 in
set_option maxHeartbeats 1000000 in
theorem ponly2_any {V : World} {ad : Option Addr} {cap : Nat} {kids : List Tn} (hk : Kl V ad cap kids) (go : Nat) (kf : FuncId) (hin : Goin kf) (caps : Array Value) (p : Tn → Bool) (hg : V.heap[go]? = some (.cells #[.func (.func kf) #[] caps] 26 (0, 0)))
    (hf : ∀ (i : Nat) (t : Tn), kids[i]? = some t → ∀ U, Below V.heap.size V U → Calls Tryz.prog kf (#[t.val] ++ caps) U fun e U' => e = .returned (.bool (p t)) ∧ Below U.heap.size U U') :
    Calls Tryz.prog 58 #[.slice ad kids.length cap, .pointer (some ⟨go, 0, none⟩)] V fun e V' => e = .returned (.bool (kids.all p)) ∧ Below V.heap.size V V' := by
  have q := peach_ask hk kf hin caps p hf
  generalize kids.all p = R at q ⊢
  generalize kids.length = N at q ⊢
  have hc := one_cell_of hg
  have Q : Hid _ := q
  clear q hf hk hg hin
  go_enter Tryz.func58, Tryz.ntmps58
  go_wp2_with fail
  refine Calls.mono Q.out ?_
  rintro e w1 ⟨rfl, hb⟩
  go_wp2
  go_ret
  exact ⟨rfl, hb⟩

set_option maxRecDepth 10000 in
set_option maxHeartbeats 1000000 in
theorem ponly_any (W : World) (b c : Nat) (zs : List Int) (hz : zs.length ≤ 100) (hi : Ib W b zs) (hb : b < W.heap.size) (B : Nat) (hB : B ≤ b) :
    Calls Tryz.prog 30 #[.slice (some ⟨b, 0, none⟩) zs.length c] W fun e W' => ∃ f, e = .returned f ∧ AskL B W' f (fun l => l.all fun t => zs.contains t.kind) ∧ Below W.heap.size W W' := by
  have hmf : ∀ (fn : Fn) (first cap : Array Value) (w : World), (Instr.makeFunc fn first cap).run Tryz.prog w = .ok (.func fn first cap) w := fun _ _ _ _ => rfl
  have HBA : Hid (Below W.heap.size W ((W.alloc (.cells #[.slice (some ⟨b, 0, none⟩) zs.length c] 45)).alloc (.cells #[.func (.func 56) #[] #[.pointer (some ⟨W.heap.size, 0, none⟩)]] 26))) := ((Below.refl _ _).alloc (Nat.le_refl _) _).alloc (by simp only [World.size_alloc]; omega) _
  have fin : Hid (AskL B ((W.alloc (.cells #[.slice (some ⟨b, 0, none⟩) zs.length c] 45)).alloc (.cells #[.func (.func 56) #[] #[.pointer (some ⟨W.heap.size, 0, none⟩)]] 26)) (.func (.func 58) #[] #[.pointer (some ⟨W.heap.size + 1, 0, none⟩)]) (fun l => l.all fun t => zs.contains t.kind)) := by
    refine ⟨_, _, rfl, Tryz.call58, fun V ad cap kids hV hT hk hs => ?_⟩
    have b0 : V.heap[W.heap.size]? = _ := (hV.block _ (by omega) (by simp only [World.size_alloc]; omega)).trans (alloc_old (alloc_at W (.cells #[.slice (some ⟨b, 0, none⟩) zs.length c] 45) rfl))
    have b1 : V.heap[W.heap.size + 1]? = _ := (hV.block _ (by omega) (by simp only [World.size_alloc]; omega)).trans (alloc_at _ _ (by simp))
    have b2 : V.heap[b]? = W.heap[b]? := (hV.block _ hB (by simp only [World.size_alloc]; omega)).trans (HBA.out.block _ hb)
    refine ponly2_any hk (W.heap.size + 1) 56 Tryz.call56 #[.pointer (some ⟨W.heap.size, 0, none⟩)] (fun t => zs.contains t.kind) b1 (fun i t ht U hU => ?_)
    exact ponly1_any t U W.heap.size b c zs hz ((hU.block _ (one_lt b0)).trans b0) ((hi.of_block b2).of_block (hU.block _ (Nat.lt_of_lt_of_le hb (Nat.le_trans HBA.out.size hV.size)))) (Nat.lt_of_lt_of_le hb (Nat.le_trans HBA.out.size (Nat.le_trans hV.size hU.size)))
  generalize zs.length = N at *
  clear hi
  go_enter Tryz.func30, Tryz.ntmps30
  go_wp2
  go_ret
  exact ⟨_, rfl, fin.out, HBA.out⟩

end Go.Proofs.YtgkablmglkagfaaGreatDoor

/- The contracts of the program's own some, and of the closure that it answers. -/
namespace Go.Proofs.YtgkablmglkagfaaGreatDoor
open Go.RowKit
set_option linter.unusedVariables false
set_option linter.unusedSimpArgs false

set_option maxRecDepth 10000 in
set_option maxHeartbeats 1000000 in
theorem psome1_any {V : World} {ad : Option Addr} {cap : Nat} (N : Nat) (hN : (N : Int) ≤ 9223372036854775807) (g : Nat) (kf : FuncId) (hin : Goin kf) (caps : Array Value) (R : Bool) (hg : V.heap[g]? = some (.cells #[.func (.func kf) #[] caps] 29 (0, 0)))
    (hf : Calls Tryz.prog kf (#[.slice ad N cap] ++ caps) V fun e V' => e = .returned (.bool R) ∧ Below V.heap.size V V') :
    Calls Tryz.prog 64 #[.slice ad N cap, .pointer (some ⟨g, 0, none⟩)] V fun e V' => e = .returned (.bool (decide (0 < N) && R)) ∧ Below V.heap.size V V' := by
  have hc := one_cell_of hg
  have Q : Hid _ := hf
  have HB : Hid (Below V.heap.size V V) := Below.refl _ _
  clear hf hg
  unfold Goin at hin
  by_cases h0 : 0 < N
  · have e1 : (0 : Int) < (N : Int) := by omega
    rw [decide_eq_true h0, Bool.true_and]
    clear h0
    go_enter Tryz.func64, Tryz.ntmps64
    go_wp2_with fail
    refine Calls.mono Q.out ?_
    rintro e w1 ⟨rfl, hb⟩
    go_wp2
    go_ret
    exact ⟨rfl, hb⟩
  · obtain rfl : N = 0 := by omega
    clear Q
    go_enter Tryz.func64, Tryz.ntmps64
    go_wp2
    go_ret
    exact ⟨rfl, HB.out⟩

set_option maxRecDepth 10000 in
set_option maxHeartbeats 1000000 in
theorem psome_any (W : World) (kind : Int) (h0 : 0 ≤ kind) (h1 : kind ≤ 100) :
    Calls Tryz.prog 36 #[.int .i64 kind] W fun e W' => ∃ f, e = .returned f ∧ AskL W.heap.size W' f (fun l => decide (0 < l.length) && l.all fun t => [kind].contains t.kind) ∧ Below W.heap.size W W' := by
  have hmf : ∀ (fn : Fn) (first cap : Array Value) (w : World), (Instr.makeFunc fn first cap).run Tryz.prog w = .ok (.func fn first cap) w := fun _ _ _ _ => rfl
  have HBA : Hid (Below W.heap.size W (W.alloc (.cells #[.int .i64 kind] 3))) := (Below.refl _ _).alloc (Nat.le_refl _) _
  have Q : Hid _ := ponly_any (W.alloc (.cells #[.int .i64 kind] 3)) W.heap.size 1 [kind] (by simp) (fun j hj => by
    obtain rfl : j = 0 := by simp at hj; omega
    exact one_cell_of (alloc_at _ _ rfl)) (by simp) W.heap.size (Nat.le_refl _)
  go_enter Tryz.func36, Tryz.ntmps36
  go_wp2_with fail
  refine Calls.mono Q.out ?_
  rintro e w1 ⟨f, rfl, ⟨k, caps, rfl, hin, hask⟩, hb⟩
  have hb' : Below W.heap.size W w1 := HBA.out.trans (hb.mono HBA.out.size)
  have HB : Hid (Below W.heap.size W (w1.alloc (.cells #[.func (.func k) #[] caps] 29))) := hb'.alloc hb'.size _
  have fin : Hid (AskL W.heap.size (w1.alloc (.cells #[.func (.func k) #[] caps] 29)) (.func (.func 64) #[] #[.pointer (some ⟨w1.heap.size, 0, none⟩)]) (fun l => decide (0 < l.length) && l.all fun t => [kind].contains t.kind)) := by
    refine ⟨_, _, rfl, Tryz.call64, fun V ad cap kids hV hT hk hs => ?_⟩
    have b0 : V.heap[w1.heap.size]? = _ := (hV.block _ hb'.size (by simp only [World.size_alloc]; omega)).trans (alloc_at w1 _ rfl)
    exact psome1_any kids.length hk.hlen w1.heap.size k hin caps _ b0 (hask V ad cap kids ((Sin.of ((Below.refl _ _).alloc (Nat.le_refl _) _) (Nat.le_refl _)).trans hV) hT hk hs)
  clear Q hb hin hask hb'
  go_wp2
  go_ret
  exact ⟨_, rfl, fin.out, HB.out⟩

end Go.Proofs.YtgkablmglkagfaaGreatDoor

/- The contracts of the program's own typed, and of the closure that it answers. -/
namespace Go.Proofs.YtgkablmglkagfaaGreatDoor
open Go.RowKit
set_option linter.unusedVariables false
set_option linter.unusedSimpArgs false

theorem Kl.take {w : World} {ad : Option Addr} {cap : Nat} {kids : List Tn} (h : Kl w ad cap kids) (n : Nat) (hn : n ≤ kids.length) : Kl w ad cap (kids.take n) := by
  have hl : (kids.take n).length = n := by rw [List.length_take]; omega
  refine ⟨by have := h.hlen; omega, by have := h.hcap; omega, h.hnil, fun hp => ?_, fun i t hi => ?_⟩
  · obtain ⟨b, off, h1, h2, h3⟩ := h.hmem (by omega)
    refine ⟨b, off, h1, h2, fun i t hi => h3 i t ?_⟩
    rw [List.getElem?_take] at hi
    split at hi
    · exact hi
    · cases hi
  · refine h.hall i t ?_
    rw [List.getElem?_take] at hi
    split at hi
    · exact hi
    · cases hi

theorem Kl.drop {w : World} {b off : Nat} {cap : Nat} {kids : List Tn} (h : Kl w (some ⟨b, off, none⟩) cap kids) (n : Nat) (hn : n ≤ kids.length) : Kl w (some ⟨b, off + n * 8, none⟩) (cap - n) (kids.drop n) := by
  have hl : (kids.drop n).length = kids.length - n := List.length_drop ..
  refine ⟨by have := h.hlen; omega, by have := h.hcap; omega, by simp, fun hp => ?_, fun i t hi => ?_⟩
  · obtain ⟨b', off', h1, h2, h3⟩ := h.hmem (by omega)
    cases h1
    refine ⟨b, off + n * 8, rfl, h2, fun i t hi j u hj => ?_⟩
    rw [List.getElem?_drop] at hi
    have := h3 (n + i) t hi j u hj
    rw [show off + n * 8 + i * 8 + j = off + (n + i) * 8 + j by omega]
    exact this
  · rw [List.getElem?_drop] at hi
    exact h.hall _ t hi

theorem Kl.empty {w : World} {ad : Option Addr} {cap : Nat} (h : ad = none → cap = 0) : Kl w ad cap [] := ⟨by simp, by simp, h, fun hp => absurd hp (by simp), fun i t hi => by simp at hi⟩

set_option maxRecDepth 10000 in
set_option maxHeartbeats 4000000 in
theorem ptyped1_any {V : World} (b off cap N cnt : Nat) (hN : (N : Int) ≤ 9223372036854775807) (hcap : N ≤ cap) (hle : cnt ≤ N) (h9 : cnt ≤ 9) (h1 : 0 < cnt) (gc gt gp : Nat) (k1 k2 : FuncId) (hin1 : Goin k1) (hin2 : Goin k2) (caps1 caps2 : Array Value) (R1 R2 : Bool)
    (hgc : V.heap[gc]? = some (.cells #[.int .i64 (cnt : Int)] 3 (0, 0))) (hgt : V.heap[gt]? = some (.cells #[.func (.func k1) #[] caps1] 29 (0, 0))) (hgp : V.heap[gp]? = some (.cells #[.func (.func k2) #[] caps2] 29 (0, 0)))
    (hf1 : ∀ U, Below V.heap.size V U → Calls Tryz.prog k1 (#[.slice (some ⟨b, off, none⟩) cnt cap] ++ caps1) U fun e U' => e = .returned (.bool R1) ∧ Below U.heap.size U U')
    (hf2 : ∀ U, Below V.heap.size V U → Calls Tryz.prog k2 (#[.slice (if cap = cnt then some ⟨b, off, none⟩ else some ⟨b, off + cnt * 8, none⟩) (N - cnt) (cap - cnt)] ++ caps2) U fun e U' => e = .returned (.bool R2) ∧ Below U.heap.size U U') :
    Calls Tryz.prog 62 #[.slice (some ⟨b, off, none⟩) N cap, .pointer (some ⟨gc, 0, none⟩), .pointer (some ⟨gt, 0, none⟩), .pointer (some ⟨gp, 0, none⟩)] V fun e V' => e = .returned (.bool (R1 && R2)) ∧ Below V.heap.size V V' := by
  have c0 := fun x : Ext V => x.cell (one_lt hgc) (one_cell_of hgc)
  have c1 := fun x : Ext V => x.cell (one_lt hgt) (one_cell_of hgt)
  have c2 := fun x : Ext V => x.cell (one_lt hgp) (one_cell_of hgp)
  have Q1 : Hid _ := hf1
  have Q2 : Hid _ := hf2
  unfold Goin at hin1 hin2
  have e1 : (cnt : Int) ≤ (N : Int) := by omega
  clear hgc hgt hgp hf1 hf2
  cases R1 with
  | false =>
    go_enter Tryz.func62, Tryz.ntmps62
    go_wp2_with fail
    refine wp_region_ext V (Below.refl _ _) rfl (by kernel_rfl) ?_
    repeat (go_big_quiet_step (exact Ext.call (fun U hU => Q1.out U hU) _))
    refine wpQuiet_nil ?_
    rintro w5 ⟨⟨_, hb5⟩, rfl⟩
    have HB5 : Hid (Below V.heap.size V w5) := hb5
    clear hb5
    go_wp2
    go_ret
    exact ⟨rfl, HB5.out⟩
  | true =>
    go_enter Tryz.func62, Tryz.ntmps62
    go_wp2_with fail
    refine wp_region_ext V (Below.refl _ _) rfl (by kernel_rfl) ?_
    repeat (go_big_quiet_step (first | (exact Ext.call (fun U hU => Q1.out U hU) _) | (exact Ext.call (fun U hU => Q2.out U hU) _)))
    refine wpQuiet_nil ?_
    rintro w5 ⟨⟨_, hb5⟩, rfl⟩
    have HB5 : Hid (Below V.heap.size V w5) := hb5
    clear hb5
    go_wp2
    all_goals go_ret
    all_goals exact ⟨by simp, HB5.out⟩

set_option maxRecDepth 10000 in
set_option maxHeartbeats 4000000 in
theorem ptyped1_short {V : World} (ad : Option Addr) (cap N cnt : Nat) (hN : (N : Int) ≤ 9223372036854775807) (hle : ¬ cnt ≤ N) (h9 : cnt ≤ 9) (gc gt gp : Nat)
    (hgc : V.heap[gc]? = some (.cells #[.int .i64 (cnt : Int)] 3 (0, 0))) :
    Calls Tryz.prog 62 #[.slice ad N cap, .pointer (some ⟨gc, 0, none⟩), .pointer (some ⟨gt, 0, none⟩), .pointer (some ⟨gp, 0, none⟩)] V fun e V' => e = .returned (.bool false) ∧ Below V.heap.size V V' := by
  have c0 := fun x : Ext V => x.cell (one_lt hgc) (one_cell_of hgc)
  have e1 : decide (cnt ≤ N) = false := decide_eq_false hle
  clear hgc
  go_enter Tryz.func62, Tryz.ntmps62
  go_wp2_with fail
  refine wp_region_ext V (Below.refl _ _) rfl (by kernel_rfl) ?_
  repeat (go_big_quiet_step (fail))
  refine wpQuiet_nil ?_
  rintro w5 ⟨⟨_, hb5⟩, rfl⟩
  have HB5 : Hid (Below V.heap.size V w5) := hb5
  clear hb5
  go_wp2
  go_ret
  exact ⟨rfl, HB5.out⟩

/-- So many types, and options behind them. -/
def ptyp (cnt : Nat) (l : List Tn) : Bool := decide (cnt ≤ l.length) && (((l.take cnt).all fun t => [18].contains t.kind) && ((l.drop cnt).all fun t => [4].contains t.kind))

set_option maxRecDepth 10000 in
set_option maxHeartbeats 2000000 in
theorem ptyped_any (W : World) (cnt : Nat) (h1 : 0 < cnt) (h9 : cnt ≤ 9) :
    Calls Tryz.prog 33 #[.int .i64 (cnt : Int)] W fun e W' => ∃ f, e = .returned f ∧ AskL W.heap.size W' f (ptyp cnt) ∧ Below W.heap.size W W' := by
  have hmf : ∀ (fn : Fn) (first cap : Array Value) (w : World), (Instr.makeFunc fn first cap).run Tryz.prog w = .ok (.func fn first cap) w := fun _ _ _ _ => rfl
  have HBA : Hid (Below W.heap.size W ((W.alloc (.cells #[.int .i64 (cnt : Int)] 3)).alloc (.cells #[.int .i64 18] 3))) := ((Below.refl _ _).alloc (Nat.le_refl _) _).alloc (by simp only [World.size_alloc]; omega) _
  have Q : Hid _ := ponly_any ((W.alloc (.cells #[.int .i64 (cnt : Int)] 3)).alloc (.cells #[.int .i64 18] 3)) (W.heap.size + 1) 1 [18] (by simp) (fun j hj => by
    obtain rfl : j = 0 := by simp at hj; omega
    exact one_cell_of (alloc_at _ _ (by simp))) (by simp) W.heap.size (by omega)
  have Q2 : Hid (∀ w1, Below W.heap.size W w1 → _) := fun w1 (h1 : Below W.heap.size W w1) => ponly_any (w1.alloc (.cells #[.int .i64 4] 3)) w1.heap.size 1 [4] (by simp) (fun j hj => by
    obtain rfl : j = 0 := by simp at hj; omega
    exact one_cell_of (alloc_at _ _ rfl)) (by simp) W.heap.size h1.size
  go_enter Tryz.func33, Tryz.ntmps33
  go_wp2_with fail
  refine Calls.mono Q.out ?_
  rintro e w1 ⟨f, rfl, ⟨k, caps, rfl, hin, hask⟩, hb⟩
  have hb' : Below W.heap.size W w1 := HBA.out.trans (hb.mono HBA.out.size)
  have Q3 : Hid _ := Q2.out w1 hb'
  have b0 : w1.heap[W.heap.size]? = some (.cells #[.int .i64 (cnt : Int)] 3 (0, 0)) := (hb.block _ (by simp only [World.size_alloc]; omega)).trans (alloc_old (alloc_at _ _ rfl))
  have HB1 : Hid (Below W.heap.size W w1) := hb'
  have HI : Hid _ := And.intro hin (And.intro hask b0)
  clear Q Q2 hb hin hask hb' b0
  go_wp2_with fail
  refine Calls.mono Q3.out ?_
  rintro e w2 ⟨f, rfl, ⟨k2, caps2, rfl, hin2, hask2⟩, hb2⟩
  have hb2' : Below w1.heap.size w1 w2 := ((Below.refl _ _).alloc (Nat.le_refl _) _).trans (hb2.mono (by simp))
  have HB2 : Hid (Below W.heap.size W w2) := HB1.out.trans (hb2'.mono HB1.out.size)
  have HI2 : Hid _ := And.intro hin2 (And.intro hask2 hb2')
  clear Q3 hb2 hin2 hask2 hb2'
  go_wp2
  go_ret
  obtain ⟨hin, hask, b0⟩ := HI.out
  obtain ⟨hin2, hask2, hb2⟩ := HI2.out
  have hbe : Below w2.heap.size w2 ((w2.alloc (.cells #[.func (.func k) #[] caps] 29)).alloc (.cells #[.func (.func k2) #[] caps2] 29)) := ((Below.refl _ _).alloc (Nat.le_refl _) _).alloc (by simp only [World.size_alloc]; omega) _
  refine ⟨_, rfl, ⟨_, _, rfl, Tryz.call62, fun V ad cap kids hV hT hk hs => ?_⟩, HB2.out.trans (hbe.mono HB2.out.size)⟩
  have hbV := fun U (hU : Below V.heap.size V U) => (show Sin W.heap.size w2 U from (Sin.of hbe (Nat.le_refl _)).trans (hV.trans (Sin.of hU (Nat.le_refl _))))
  have c0 : V.heap[W.heap.size]? = some (.cells #[.int .i64 (cnt : Int)] 3 (0, 0)) := (hV.block _ (Nat.le_refl _) (Nat.lt_of_lt_of_le (one_lt b0) (Nat.le_trans hb2.size hbe.size))).trans ((hbe.block _ (Nat.lt_of_lt_of_le (one_lt b0) hb2.size)).trans ((hb2.block _ (one_lt b0)).trans b0))
  have c1 : V.heap[w2.heap.size]? = some (.cells #[.func (.func k) #[] caps] 29 (0, 0)) := (hV.block _ HB2.out.size (by simp only [World.size_alloc]; omega)).trans (alloc_old (alloc_at _ _ rfl))
  have c2 : V.heap[w2.heap.size + 1]? = some (.cells #[.func (.func k2) #[] caps2] 29 (0, 0)) := (hV.block _ (Nat.le_trans HB2.out.size (by omega)) (by simp only [World.size_alloc]; omega)).trans (alloc_at _ _ (by simp))
  by_cases hle : cnt ≤ kids.length
  · obtain ⟨b, off, rfl, _⟩ := hk.hmem (by omega)
    rw [show ptyp cnt kids = (((kids.take cnt).all fun t => [18].contains t.kind) && ((kids.drop cnt).all fun t => [4].contains t.kind)) by unfold ptyp; rw [decide_eq_true hle, Bool.true_and]]
    have hl1 : (kids.take cnt).length = cnt := by rw [List.length_take]; omega
    have hl2 : (kids.drop cnt).length = kids.length - cnt := List.length_drop ..
    refine ptyped1_any b off cap kids.length cnt hk.hlen hk.hcap hle h9 h1 W.heap.size w2.heap.size (w2.heap.size + 1) k k2 hin hin2 caps caps2 _ _ c0 c1 c2 (fun U hU => ?_) (fun U hU => ?_)
    · have := hask U (some ⟨b, off, none⟩) cap (kids.take cnt) ((Sin.of hb2 (Nat.le_refl _)).trans (hbV U hU)) (hT.below hU (Nat.le_refl _)) ((hk.take cnt hle).under hU) (fun i t hi => hs i t (by
        rw [List.getElem?_take] at hi
        split at hi
        · exact hi
        · cases hi))
      rw [hl1] at this
      exact this
    · have := hask2 U (if cap = cnt then some ⟨b, off, none⟩ else some ⟨b, off + cnt * 8, none⟩) (cap - cnt) (kids.drop cnt) (hbV U hU) (hT.below hU (Nat.le_refl _)) (by
        by_cases hcc : cap = cnt
        · rw [if_pos hcc]
          have : kids.drop cnt = [] := List.drop_of_length_le (by have := hk.hcap; omega)
          rw [this]
          exact Kl.empty (by simp)
        · rw [if_neg hcc]
          exact (hk.drop cnt hle).under hU) (fun i t hi => hs _ t (by rw [List.getElem?_drop] at hi; exact hi))
      rw [hl2] at this
      exact this
  · rw [show ptyp cnt kids = false by unfold ptyp; rw [decide_eq_false hle, Bool.false_and]]
    exact ptyped1_short ad cap kids.length cnt hk.hlen hle h9 W.heap.size w2.heap.size (w2.heap.size + 1) c0

end Go.Proofs.YtgkablmglkagfaaGreatDoor

/- The contracts of the reference's own Same, Synthetic. -/
namespace Go.Proofs.YtgkablmglkagfaaGreatDoor
open Go.RowKit
set_option linter.unusedVariables false
set_option linter.unusedSimpArgs false

theorem nsyn_len (t : List (List Int)) : ∀ (f : Nat) (s : List Int), (nsyn t f s).length ≤ s.length + f
  | 0, s => by simp [nsyn]
  | f + 1, s => by
    rw [nsyn]
    split
    · have := nsyn_len t f (88 :: s); simp only [List.length_cons] at this; omega
    · have := nsyn_len t f s; omega

theorem nsyn_bd (t : List (List Int)) : ∀ (f : Nat) (s : List Int), byts s → byts (nsyn t f s)
  | 0, s, h => h
  | f + 1, s, h => by
    rw [nsyn]
    refine nsyn_bd t f _ ?_
    split
    · intro c hc
      rcases List.mem_cons.1 hc with rfl | hc
      · omega
      · exact h c hc
    · exact h

end Go.Proofs.YtgkablmglkagfaaGreatDoor

/- The contract of the reference's own Places. -/
namespace Go.Proofs.YtgkablmglkagfaaGreatDoor
open Go.RowKit
set_option linter.unusedVariables false
set_option linter.unusedSimpArgs false

def txtLen : Value → Nat
  | .string s => s.size
  | _ => 0

theorem njoin_len (a b : List Int) : (njoin a b).length ≤ a.length + b.length + 1 := by
  unfold njoin
  split
  · omega
  · simp; omega

theorem njoin_bd (a b : List Int) (ha : byts a) (hb : byts b) : byts (njoin a b) := by
  unfold njoin
  split
  · exact hb
  · intro c hc
    simp only [List.mem_append, List.mem_cons, List.not_mem_nil, or_false] at hc
    rcases hc with (hc | rfl) | hc
    · exact ha c hc
    · omega
    · exact hb c hc

theorem nparent_bd (s : List Int) (h : byts s) : byts (nparent s).1 ∧ byts (nparent s).2 := by
  unfold nparent
  split
  · exact ⟨fun c hc => by simp at hc, h⟩
  · exact ⟨fun c hc => h c (List.mem_of_mem_take hc), fun c hc => h c (List.mem_of_mem_drop hc)⟩

theorem nplc_more (name scope : List Int) (h : scope ≠ []) : nplc name scope.length scope = njoin scope name :: nplc name (nparent scope).1.length (nparent scope).1 := by
  have hl := nparent_lt scope h
  obtain ⟨m, hm⟩ : ∃ m, scope.length = m + 1 := ⟨scope.length - 1, by omega⟩
  rw [hm, nplc, if_neg h, nplc_fuel name m (nparent scope).1.length _ (by omega) (Nat.le_refl _)]

end Go.Proofs.YtgkablmglkagfaaGreatDoor

/- The program's own layer 6: which signs a text has when it is ranged over; small, letter, digit, run, Ident. -/
namespace Go.Proofs.YtgkablmglkagfaaGreatDoor
open Go.RowKit
set_option linter.unusedVariables false
set_option linter.unusedSimpArgs false

def NTab (_ : World) : Prop := True

theorem NTab.below {w w' : World} (h : NTab w) {B : Nat} (hb : Below B w w') (hB : w.heap.size ≤ B) : NTab w' := trivial

/-- A sign beyond the plain ones takes up bytes that are all beyond 127. -/
theorem dec_wide (S : ByteArray) (p : Nat) (h : p < S.size) (ha : 128 ≤ (S.get! (p + 0)).toNat) : p + (Utf8.decode S p).2 ≤ S.size ∧ ∀ j, j < (Utf8.decode S p).2 → 128 ≤ (S.get! (p + j)).toNat := by
  have one : ∀ j, j < 1 → 128 ≤ (S.get! (p + j)).toNat := fun j hj => by rw [show j = 0 by omega]; exact ha
  have hn : ¬ (S.get! (p + 0)).toNat < 128 := by omega
  simp only [Utf8.decode, hn, if_false]
  split
  · rename_i h1
    simp only [Bool.and_eq_true, decide_eq_true_eq, beq_iff_eq] at h1
    split
    · refine ⟨by show p + 2 ≤ _; omega, fun j hj => ?_⟩
      have hj : j < 2 := hj
      rcases (show j = 0 ∨ j = 1 by omega) with rfl | rfl <;> omega
    · exact ⟨by show p + 1 ≤ _; omega, one⟩
  · split
    · rename_i h1
      simp only [Bool.and_eq_true, decide_eq_true_eq, beq_iff_eq] at h1
      split
      · refine ⟨by show p + 3 ≤ _; omega, fun j hj => ?_⟩
        have hj : j < 3 := hj
        rcases (show j = 0 ∨ j = 1 ∨ j = 2 by omega) with rfl | rfl | rfl <;> omega
      · exact ⟨by show p + 1 ≤ _; omega, one⟩
    · split
      · rename_i h1
        simp only [Bool.and_eq_true, decide_eq_true_eq, beq_iff_eq] at h1
        split
        · refine ⟨by show p + 4 ≤ _; omega, fun j hj => ?_⟩
          have hj : j < 4 := hj
          rcases (show j = 0 ∨ j = 1 ∨ j = 2 ∨ j = 3 by omega) with rfl | rfl | rfl | rfl <;> omega
        · exact ⟨by show p + 1 ≤ _; omega, one⟩
      · exact ⟨by show p + 1 ≤ _; omega, one⟩

/-- The sign at place k of a text, and how many bytes it takes. -/
theorem dec_at (s : List Int) (hz : ∀ i, 0 ≤ s.getD i 0 ∧ s.getD i 0 ≤ 255) (k : Nat) (hk : k < s.length) :
    (s.getD k 0 < 128 ∧ ((Utf8.decode (strOfNums s) k).1 : Int) = s.getD k 0 ∧ (Utf8.decode (strOfNums s) k).2 = 1) ∨
    (128 ≤ s.getD k 0 ∧ 128 ≤ ((Utf8.decode (strOfNums s) k).1 : Int) ∧ ((Utf8.decode (strOfNums s) k).1 : Int) ≤ 2147483647 ∧ 1 ≤ (Utf8.decode (strOfNums s) k).2 ∧ k + (Utf8.decode (strOfNums s) k).2 ≤ s.length ∧ ∀ j, k ≤ j → j < k + (Utf8.decode (strOfNums s) k).2 → 128 ≤ s.getD j 0) := by
  have hsz := strOfNums_size s
  have hk' : k < (strOfNums s).size := by rw [hsz]; exact hk
  have hat := str_at s hz k hk'
  by_cases ha : ((strOfNums s)[k]'hk').toNat < 128
  · left
    rw [decode_ascii _ k hk' ha]
    exact ⟨by omega, hat, rfl⟩
  · right
    obtain ⟨h1, h2⟩ := decode_high _ k hk' (by omega)
    have h3 := decode_le (strOfNums s) k
    obtain ⟨h4, h5⟩ := dec_wide _ k hk' (by rw [get_at _ k hk']; omega)
    rw [hsz] at h4
    refine ⟨by omega, by omega, by omega, h2, h4, fun j hj1 hj2 => ?_⟩
    have := h5 (j - k) (by omega)
    rw [show k + (j - k) = j by omega] at this
    have hj' : j < (strOfNums s).size := by omega
    have e := get_at (strOfNums s) j hj'
    rw [Nat.add_zero] at e
    rw [e] at this
    have := str_at s hz j hj'
    omega

def nlet (c : Int) : Bool := decide ((97 ≤ c ∧ c ≤ 122) ∨ (65 ≤ c ∧ c ≤ 90) ∨ c = 95)

def nok (s : List Int) (i : Nat) : Bool := nlet (s.getD i 0) || (lnumb (s.getD i 0) && decide (0 < i))

theorem nident_nok (s : List Int) (h1 : 1 ≤ s.length) (h2 : s.length ≤ 200) : nident s = decide (∀ i, i < s.length → nok s i = true) := by
  rw [Bool.eq_iff_iff, decide_eq_true_eq]
  unfold nident
  simp only [Bool.and_eq_true, List.all_eq_true, decide_eq_true_eq, Bool.not_eq_true']
  constructor
  · rintro ⟨⟨ha, _⟩, hb⟩ i hi
    have := ha (s.getD i 0) (by rw [show s.getD i 0 = s[i] by simp [List.getD, hi]]; exact List.getElem_mem hi)
    unfold lletter at this
    unfold nok nlet lnumb
    simp only [decide_eq_true_eq] at this
    simp only [Bool.or_eq_true, Bool.and_eq_true, decide_eq_true_eq]
    by_cases h0 : i = 0
    · subst h0
      unfold lnumb at hb
      rw [decide_eq_false_iff_not] at hb
      omega
    · omega
  · intro h
    refine ⟨⟨fun c hc => ?_, ⟨h1, h2⟩⟩, ?_⟩
    · obtain ⟨i, hi, rfl⟩ := List.getElem_of_mem hc
      have := h i hi
      rw [show s[i] = s.getD i 0 by simp [List.getD, hi]]
      unfold nok nlet lnumb at this
      unfold lletter
      simp only [Bool.or_eq_true, Bool.and_eq_true, decide_eq_true_eq] at this ⊢
      omega
    · have := h 0 (by omega)
      unfold nok nlet at this
      unfold lnumb at this ⊢
      rw [decide_eq_false_iff_not]
      simp only [Bool.or_eq_true, Bool.and_eq_true, decide_eq_true_eq] at this
      omega

def nsml (c : Int) : Bool := decide (97 ≤ c ∧ c ≤ 122)

set_option maxHeartbeats 1000000 in
theorem psmall_any (c : Int) (w : World) (h0 : 0 ≤ c) (h1 : c ≤ 2147483647) :
    Calls Tryz.prog 91 #[.int .i32 c] w fun e w' => e = .returned (.bool (nsml c)) ∧ w = w' := by
  rcases (show (97 ≤ c ∧ c ≤ 122) ∨ (c < 97) ∨ (122 < c) by omega) with h | h | h
  · have E : Hid (nsml c = true) := decide_eq_true (by omega)
    obtain ⟨p1, p2⟩ := h
    go_enter Tryz.func91, Tryz.ntmps91
    go_wp2
    go_ret
    exact ⟨by rw [E.out]; first | rfl | exact ret_bool (by simp; omega), rfl⟩
  · have E : Hid (nsml c = false) := decide_eq_false (by omega)
    go_enter Tryz.func91, Tryz.ntmps91
    go_wp2
    go_ret
    exact ⟨by rw [E.out]; first | rfl | exact ret_bool (by simp; omega), rfl⟩
  · have E : Hid (nsml c = false) := decide_eq_false (by omega)
    have p1 : 97 ≤ c := by omega
    go_enter Tryz.func91, Tryz.ntmps91
    go_wp2
    go_ret
    exact ⟨by rw [E.out]; first | rfl | exact ret_bool (by simp; omega), rfl⟩

set_option maxHeartbeats 1000000 in
theorem pndigit_any (c : Int) (w : World) (h0 : 0 ≤ c) (h1 : c ≤ 2147483647) :
    Calls Tryz.prog 73 #[.int .i32 c] w fun e w' => e = .returned (.bool (lnumb c)) ∧ w = w' := by
  rcases (show (48 ≤ c ∧ c ≤ 57) ∨ (c < 48) ∨ (57 < c) by omega) with h | h | h
  · have E : Hid (lnumb c = true) := decide_eq_true (by omega)
    obtain ⟨p1, p2⟩ := h
    go_enter Tryz.func73, Tryz.ntmps73
    go_wp2
    go_ret
    exact ⟨by rw [E.out]; first | rfl | exact ret_bool (by simp; omega), rfl⟩
  · have E : Hid (lnumb c = false) := decide_eq_false (by omega)
    go_enter Tryz.func73, Tryz.ntmps73
    go_wp2
    go_ret
    exact ⟨by rw [E.out]; first | rfl | exact ret_bool (by simp; omega), rfl⟩
  · have E : Hid (lnumb c = false) := decide_eq_false (by omega)
    have p1 : 48 ≤ c := by omega
    go_enter Tryz.func73, Tryz.ntmps73
    go_wp2
    go_ret
    exact ⟨by rw [E.out]; first | rfl | exact ret_bool (by simp; omega), rfl⟩

set_option maxHeartbeats 1000000 in
theorem pnlet_any (c : Int) (w : World) (h0 : 0 ≤ c) (h1 : c ≤ 2147483647) :
    Calls Tryz.prog 72 #[.int .i32 c] w fun e w' => e = .returned (.bool (nlet c)) ∧ w = w' := by
  by_cases k95 : c = 95
  · have E : Hid (nlet c = true) := decide_eq_true (by omega)
    subst k95
    go_enter Tryz.func72, Tryz.ntmps72
    go_wp2
    go_ret
    exact ⟨by rw [E.out]; first | rfl | exact ret_bool (by simp; omega), rfl⟩
  have e95 : (c == 95) = false := by simpa using k95
  have q := fun W => psmall_any c W h0 h1
  rcases (show (97 ≤ c ∧ c ≤ 122) ∨ (65 ≤ c ∧ c ≤ 90) ∨ (c < 65) ∨ (90 < c ∧ c < 97) ∨ (122 < c) by omega) with h | h | h | h | h
  · have E : Hid (nlet c = true) := decide_eq_true (by omega)
    rw [show nsml c = true from decide_eq_true h] at q
    have Q : Hid _ := q
    clear q h k95
    go_enter Tryz.func72, Tryz.ntmps72
    go_wp2_with fail
    refine Calls.mono (Q.out _) ?_
    rintro e w1 ⟨rfl, rfl⟩
    go_wp2
    go_ret
    exact ⟨by rw [E.out]; first | rfl | exact ret_bool (by simp; omega), rfl⟩
  · have E : Hid (nlet c = true) := decide_eq_true (by omega)
    rw [show nsml c = false from decide_eq_false (by omega)] at q
    obtain ⟨p1, p2⟩ := h
    have Q : Hid _ := q
    clear q k95
    go_enter Tryz.func72, Tryz.ntmps72
    go_wp2_with fail
    refine Calls.mono (Q.out _) ?_
    rintro e w1 ⟨rfl, rfl⟩
    go_wp2
    go_ret
    exact ⟨by rw [E.out]; first | rfl | exact ret_bool (by simp; omega), rfl⟩
  · have E : Hid (nlet c = false) := decide_eq_false (by omega)
    rw [show nsml c = false from decide_eq_false (by omega)] at q
    have Q : Hid _ := q
    clear q k95
    go_enter Tryz.func72, Tryz.ntmps72
    go_wp2_with fail
    refine Calls.mono (Q.out _) ?_
    rintro e w1 ⟨rfl, rfl⟩
    go_wp2
    go_ret
    exact ⟨by rw [E.out]; first | rfl | exact ret_bool (by simp; omega), rfl⟩
  · have E : Hid (nlet c = false) := decide_eq_false (by omega)
    rw [show nsml c = false from decide_eq_false (by omega)] at q
    have p1 : 65 ≤ c := by omega
    have p2 : 90 < c := h.1
    have Q : Hid _ := q
    clear q k95 h
    go_enter Tryz.func72, Tryz.ntmps72
    go_wp2_with fail
    refine Calls.mono (Q.out _) ?_
    rintro e w1 ⟨rfl, rfl⟩
    go_wp2
    go_ret
    exact ⟨by rw [E.out]; first | rfl | exact ret_bool (by simp; omega), rfl⟩
  · have E : Hid (nlet c = false) := decide_eq_false (by omega)
    rw [show nsml c = false from decide_eq_false (by omega)] at q
    have p1 : 65 ≤ c := by omega
    have p2 : 90 < c := by omega
    have Q : Hid _ := q
    clear q k95 h
    go_enter Tryz.func72, Tryz.ntmps72
    go_wp2_with fail
    refine Calls.mono (Q.out _) ?_
    rintro e w1 ⟨rfl, rfl⟩
    go_wp2
    go_ret
    exact ⟨by rw [E.out]; first | rfl | exact ret_bool (by simp; omega), rfl⟩

end Go.Proofs.YtgkablmglkagfaaGreatDoor

/- The program's own run, Ident. -/
namespace Go.Proofs.YtgkablmglkagfaaGreatDoor
open Go.RowKit
set_option linter.unusedVariables false
set_option linter.unusedSimpArgs false

set_option maxHeartbeats 1000000 in
theorem pnrun_any (s : List Int) (w : World) (hz : Hid (∀ i, 0 ≤ s.getD i 0 ∧ s.getD i 0 ≤ 255)) (hlen : (s.length : Int) ≤ 9223372036854775807) :
    Calls Tryz.prog 53 #[.string (strOfNums s)] w fun e w' => ∃ m : Nat, e = .returned (.int .i64 (m : Int)) ∧ m ≤ s.length ∧ decide (∀ i, i < s.length → nok s i = true) = decide (m = s.length) ∧ Below w.heap.size w w' := by
  have hsz := strOfNums_size s
  have HD : Hid _ := dec_at s hz.out
  generalize strOfNums s = S at hsz HD
  go_enter Tryz.func53, Tryz.ntmps53
  go_wp2
  refine wp_scope_straight ?_
  go_wp2
  go_step3
  rename_i hK
  refine hK _ _ ?_
  clear hK
  go_wp2
  go_loopw [3] (fun v wr => ∃ k : Nat, v = .int .i64 (s.length : Int) ∧ wr = w.iter S k ∧ k ≤ s.length ∧ Hid (∀ j, j < k → nok s j = true)) (fun _ wr => s.length - wr.iterPos w.heap.size)
  case atStart => exact ⟨0, rfl, rfl, by omega, fun j hj => absurd hj (by omega)⟩
  case round =>
    obtain ⟨k, rfl, rfl, hk, HJ⟩ := hrel
    by_cases hkl : k < s.length
    · have hnx : ∀ ty, (Instr.next (.pointer (some ⟨w.heap.size, 0, none⟩)) true ty).run Tryz.prog (w.iter S k) = _ := fun ty => run_next_any w S k ty (by omega)
      have hc0 := (hz.out k).1
      have hc1 := (hz.out k).2
      rcases HD.out k hkl with ⟨h1, h2, h3⟩ | ⟨h1, h2, h3, h4, h5, h6⟩
      · rw [h2, h3] at hnx
        clear h2 h3
        have hNK : nok s k = (nlet (s.getD k 0) || (lnumb (s.getD k 0) && decide (0 < k))) := rfl
        generalize s.getD k 0 = c at hnx hc0 hc1 hNK h1
        have q1 := fun W => pnlet_any c W hc0 (by omega)
        have q2 := fun W => pndigit_any c W hc0 (by omega)
        have c31 : c ≤ 2147483647 := by omega
        cases hl : nlet c with
        | true =>
          rw [hl] at q1 hNK
          rw [Bool.true_or] at hNK
          have Q1 : Hid _ := q1
          have HJ2 : Hid (∀ j, j < k + 1 → nok s j = true) := fun j hj => by
            by_cases e : j = k
            · rw [e]; exact hNK
            · exact HJ.out j (by omega)
          clear q1 q2 hl hNK HJ
          go_wp2_with fail
          refine Calls.mono (Q1.out _) ?_
          rintro e w1 ⟨rfl, rfl⟩
          go_wp2
          go_roundw
          case rel => first | exact ⟨k + 1, rfl, rfl, by omega, HJ2⟩ | ((repeat apply Exists.intro); exact ⟨⟨k + 1, rfl, rfl, by omega, HJ2⟩, rfl⟩)
          case measure => first | (simp; done) | (simp; omega)
        | false =>
          rw [hl, Bool.false_or] at hNK
          rw [hl] at q1
          have Q1 : Hid _ := q1
          cases hd : lnumb c with
          | true =>
            rw [hd, Bool.true_and] at hNK
            rw [hd] at q2
            have Q2 : Hid _ := q2
            by_cases k0 : 0 < k
            · rw [decide_eq_true k0] at hNK
              have kk : (0 : Int) < (k : Int) := by omega
              have HJ2 : Hid (∀ j, j < k + 1 → nok s j = true) := fun j hj => by
                by_cases e : j = k
                · rw [e]; exact hNK
                · exact HJ.out j (by omega)
              clear q1 q2 hl hd hNK HJ
              go_wp2_with fail
              refine Calls.mono (Q1.out _) ?_
              rintro e w1 ⟨rfl, rfl⟩
              go_wp2_with fail
              refine Calls.mono (Q2.out _) ?_
              rintro e w1 ⟨rfl, rfl⟩
              go_wp2
              go_roundw
              case rel => first | exact ⟨k + 1, rfl, rfl, by omega, HJ2⟩ | ((repeat apply Exists.intro); exact ⟨⟨k + 1, rfl, rfl, by omega, HJ2⟩, rfl⟩)
              case measure => first | (simp; done) | (simp; omega)
            · rw [decide_eq_false k0] at hNK
              obtain rfl : k = 0 := by omega
              have E : Hid (decide (∀ i, i < s.length → nok s i = true) = decide (0 = s.length)) := by
                show _ = _
                rw [decide_eq_false (p := 0 = s.length) (by omega), decide_eq_false (fun h => by have := h 0 hkl; rw [hNK] at this; simp at this)]
              clear q1 q2 hl hd hNK HJ
              go_wp2_with fail
              refine Calls.mono (Q1.out _) ?_
              rintro e w1 ⟨rfl, rfl⟩
              go_wp2_with fail
              refine Calls.mono (Q2.out _) ?_
              rintro e w1 ⟨rfl, rfl⟩
              go_wp2
              simp only [Exit.noGoto]
              go_ret
              exact ⟨0, rfl, by omega, E.out, (Below.refl _ _).alloc (Nat.le_refl _) _⟩
          | false =>
            rw [hd, Bool.false_and] at hNK
            rw [hd] at q2
            have Q2 : Hid _ := q2
            have E : Hid (decide (∀ i, i < s.length → nok s i = true) = decide (k = s.length)) := by
              show _ = _
              rw [decide_eq_false (p := k = s.length) (by omega), decide_eq_false (fun h => by have := h k hkl; rw [hNK] at this; simp at this)]
            clear q1 q2 hl hd hNK HJ
            go_wp2_with fail
            refine Calls.mono (Q1.out _) ?_
            rintro e w1 ⟨rfl, rfl⟩
            go_wp2_with fail
            refine Calls.mono (Q2.out _) ?_
            rintro e w1 ⟨rfl, rfl⟩
            go_wp2
            simp only [Exit.noGoto]
            go_ret
            exact ⟨k, rfl, by omega, E.out, (Below.refl _ _).alloc (Nat.le_refl _) _⟩
      · generalize ((Utf8.decode S k).1 : Int) = c at hnx h2 h3
        generalize (Utf8.decode S k).2 = d at hnx h4 h5 h6
        have q1 := fun W => pnlet_any c W (by omega) (by omega)
        have q2 := fun W => pndigit_any c W (by omega) (by omega)
        rw [show nlet c = false from decide_eq_false (by omega)] at q1
        rw [show lnumb c = false from decide_eq_false (by omega)] at q2
        have hNK : nok s k = false := by
          unfold nok
          rw [show nlet (s.getD k 0) = false from decide_eq_false (by omega), show lnumb (s.getD k 0) = false from decide_eq_false (by omega)]
          rfl
        have E : Hid (decide (∀ i, i < s.length → nok s i = true) = decide (k = s.length)) := by
          show _ = _
          rw [decide_eq_false (p := k = s.length) (by omega), decide_eq_false (fun h => by have := h k hkl; rw [hNK] at this; simp at this)]
        have Q1 : Hid _ := q1
        have Q2 : Hid _ := q2
        clear q1 q2 hNK HJ h6 h1 h4 h5
        go_wp2_with fail
        refine Calls.mono (Q1.out _) ?_
        rintro e w1 ⟨rfl, rfl⟩
        go_wp2_with fail
        refine Calls.mono (Q2.out _) ?_
        rintro e w1 ⟨rfl, rfl⟩
        go_wp2
        simp only [Exit.noGoto]
        go_ret
        exact ⟨k, rfl, by omega, E.out, (Below.refl _ _).alloc (Nat.le_refl _) _⟩
    · obtain rfl : k = s.length := by omega
      have hnx : ∀ ty, (Instr.next (.pointer (some ⟨w.heap.size, 0, none⟩)) true ty).run Tryz.prog (w.iter S s.length) = _ := fun ty => run_next_end w S s.length ty (by omega)
      have E : Hid (decide (∀ i, i < s.length → nok s i = true) = true) := decide_eq_true HJ.out
      clear HJ
      go_wp2
      simp only [Exit.noGoto]
      go_ret
      exact ⟨s.length, rfl, by omega, by rw [E.out, decide_eq_true rfl], (Below.refl _ _).alloc (Nat.le_refl _) _⟩

set_option maxHeartbeats 1000000 in
theorem pident_any (s : List Int) (w : World) (hT : Hid (NTab w)) (hz : Hid (∀ i, 0 ≤ s.getD i 0 ∧ s.getD i 0 ≤ 255)) (hlen : (s.length : Int) ≤ 9223372036854775807) :
    Calls Tryz.prog 21 #[.string (strOfNums s)] w fun e w' => e = .returned (.bool (nident s)) ∧ Below w.heap.size w w' := by
  have hsz := strOfNums_size s
  by_cases h0 : s = []
  · have hne : ((strOfNums s).toList == []) = true := by rw [h0, str_list]; rfl
    have E : Hid (nident s = false) := nident_big s (.inr (by rw [h0]; rfl))
    generalize strOfNums s = S at hsz hne
    go_enter Tryz.func21, Tryz.ntmps21
    go_wp2
    go_ret
    exact ⟨by rw [E.out]; first | rfl | exact ret_bool (by simp [hne]), Below.refl _ _⟩
  · have hne : ((strOfNums s).toList == []) = false := by
      cases s with
      | nil => exact absurd rfl h0
      | cons c r => exact str_ne c r
    have hl : 0 < s.length := List.length_pos_iff.2 h0
    by_cases h2 : s.length ≤ 200
    · have h2' : (s.length : Int) ≤ 200 := by omega
      have E := nident_nok s hl h2
      have q := fun W => pnrun_any s W hz hlen
      rw [← E] at q
      have Q : Hid _ := q
      clear q E
      generalize nident s = b at Q
      generalize strOfNums s = S at hsz hne Q
      go_enter Tryz.func21, Tryz.ntmps21
      go_wp2_with fail
      refine Calls.mono (Q.out _) ?_
      rintro e w1 ⟨m, rfl, hm, hb, hB⟩
      by_cases e : m = s.length
      · subst e
        rw [decide_eq_true rfl] at hb
        have heq : ((s.length : Int) == (s.length : Int)) = true := by simp
        go_wp2
        go_ret
        exact ⟨by rw [hb]; first | rfl | exact ret_bool (by simp), hB⟩
      · rw [decide_eq_false e] at hb
        have heq : ((m : Int) == (s.length : Int)) = false := by simp; omega
        go_wp2
        go_ret
        exact ⟨by rw [hb]; first | rfl | exact ret_bool (by simp; omega), hB⟩
    · have h2' : ¬ (s.length : Int) ≤ 200 := by omega
      have E : Hid (nident s = false) := nident_big s (.inl (by omega))
      generalize strOfNums s = S at hsz hne
      go_enter Tryz.func21, Tryz.ntmps21
      go_wp2
      go_ret
      exact ⟨by rw [E.out]; first | rfl | exact ret_bool (by simp [hne]; omega), Below.refl _ _⟩

end Go.Proofs.YtgkablmglkagfaaGreatDoor
