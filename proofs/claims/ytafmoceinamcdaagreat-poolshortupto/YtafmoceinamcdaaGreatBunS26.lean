/- Put together by a program out of these texts of mine: VNew, VAwk. -/
import Derived.Defers
import Derived.Recover
import Derived.Maps.RangeRun
import Derived.Test.YtafmoceinamcdaaGreatBunS25

namespace Go.Proofs.YtafmoceinamcdaaGreat
open Go.RowKit
set_option linter.unusedVariables false
set_option linter.unusedSimpArgs false

theorem opsS_of_list {P : Program} {ops : Array Oper} {Q : Exit → Act → List Frame → World → Prop} {cs : List Frame} (hno : ¬ LetsOut (fun e a w => Q e a cs w)) : ∀ (os : List Oper) (k : Nat) (a : Act) (w : World), (∀ j, os[j]? = ops[k + j]? ∨ os.length ≤ j) → wpList P ops (fun e a w => Q e a cs w) os a w → wpOpsS P ops Q (List.range' k os.length) a cs w
  | [], k, a, w, _, h => h
  | o :: os, k, a, w, ho, h => by
    have h0 : ops[k]? = some o := by
      rcases ho 0 with h1 | h1
      · simpa using h1.symm
      · simp at h1
    have ih := fun a w => opsS_of_list (P := P) hno os (k + 1) a w (fun j => by
      rcases ho (j + 1) with h1 | h1
      · left
        simpa [Nat.add_assoc, Nat.add_comm 1 j] using h1
      · right
        simpa using h1)
    simp only [List.length_cons, List.range'_succ, wpOpsS, h0]
    simp only [wpList] at h
    split
    · rename_i hw
      rw [if_pos hw] at h
      rcases h with h | h
      · unfold Oper.wp at h
        generalize (execOp a.eval o).run P w = r at h ⊢
        split
        · simp [Oper.upon] at h
        · cases r with
          | ok n w' =>
            cases n <;> simp only [Oper.upon] at h ⊢ <;>
              first
                | exact ih _ _ h
                | exact Calls.mono h (fun e w'' he => by cases e <;> first | exact ih _ _ he | exact he)
                | exact Rows.mono h (fun _ _ he => ih _ _ he)
          | halt x w' => cases x <;> simp only [Oper.upon] at h ⊢ <;> exact h
      · exact absurd h.2 hno
    · rename_i hw
      rw [if_neg hw] at h
      exact ih _ _ h

theorem opsS_rest {P : Program} {ops : Array Oper} {Q : Exit → Act → List Frame → World → Prop} {cs : List Frame} {a : Act} {w : World} (k n : Nat) (hn : (ops.toList.drop k).length = n) (hno : ¬ LetsOut (fun e a w => Q e a cs w)) (h : wpList P ops (fun e a w => Q e a cs w) (ops.toList.drop k) a w) : wpOpsS P ops Q (List.range' k n) a cs w := by
  subst hn
  exact opsS_of_list hno _ k a w (fun j => .inl (by rw [List.getElem?_drop, Array.getElem?_toList])) h

theorem range_rest {α : Type} (l : List α) : List.range (l.length + 1) = 0 :: List.range' 1 l.length := by
  rw [List.range_eq_range', List.range'_succ]

theorem wpS_recover {P : Program} {id : Nat} {Q : Exit → Act → List Frame → World → Prop} {cs cs' : List Frame} {a : Act} {w : World} {o : Oper} {os : List Oper} {v : Value} (hg : o.guard = none)
    (hop : o.op = .call { callee := .builtin .recover, args := #[], argTypes := #[] }) (hr : recoverD cs = some (v, cs')) (hno : ¬ LetsOut (fun e a w => Q e a cs' w))
    (h : wpList P (o :: os).toArray (fun e a w => Q e a cs' w) os (a.put o.dst v) w) : (Code.region id (o :: os).toArray false).wpS P Q a cs w := by
  refine wpS_region ?_
  have hw : Region.wanted o (yielded (o :: os).toArray a.tmps) = true := by simp [Region.wanted, hg]
  have hx : (execOp a.eval o).run P w = .ok .recover w := by simp [execOp, hop, resolve, invoke, builtin]
  rw [List.size_toArray, List.length_cons, range_rest]
  have h0 : (o :: os).toArray[0]? = some o := by simp
  simp only [wpOpsS, h0, hw, if_true, hx, hr]
  exact opsS_rest 1 _ (by simp) hno (by simpa using h)

theorem wpS_recover_none {P : Program} {id : Nat} {Q : Exit → Act → List Frame → World → Prop} {cs : List Frame} {a : Act} {w : World} {o : Oper} {os : List Oper} (hg : o.guard = none)
    (hop : o.op = .call { callee := .builtin .recover, args := #[], argTypes := #[] }) (hr : recoverD cs = none) (hno : ¬ LetsOut (fun e a w => Q e a cs w))
    (h : wpList P (o :: os).toArray (fun e a w => Q e a cs w) os (a.put o.dst .nilIface) w) : (Code.region id (o :: os).toArray false).wpS P Q a cs w := by
  refine wpS_region ?_
  have hw : Region.wanted o (yielded (o :: os).toArray a.tmps) = true := by simp [Region.wanted, hg]
  have hx : (execOp a.eval o).run P w = .ok .recover w := by simp [execOp, hop, resolve, invoke, builtin]
  rw [List.size_toArray, List.length_cons, range_rest]
  have h0 : (o :: os).toArray[0]? = some o := by simp
  simp only [wpOpsS, h0, hw, if_true, hx, hr]
  exact opsS_rest 1 _ (by simp) hno (by simpa using h)

set_option maxRecDepth 10000 in
set_option maxHeartbeats 1000000 in
theorem fill_idle (p q : Addr) (w : World) :
    CallsD Tryz.prog 119 #[.pointer (some p), .pointer (some q)] .returning w fun e u' w' => e = .returned (.tuple #[]) ∧ u' = .returning ∧ w' = w.alloc (.cells #[.string ⟨#[]⟩] 173) := by
  have hta : ∀ W, (Instr.typeAssert .nilIface 20 173 true).run Tryz.prog W = .ok (.tuple #[.agg #[.string ⟨#[]⟩], .bool false]) W := fun W => by kernel_rfl
  refine callsD_of_wpS Tryz.func119 rfl fun c₀ cs hu => ?_
  have hr : recoverD (c₀ :: cs) = none := by simp [recoverD, hu]
  apply wpS_seq
  refine wpS_recover_none rfl rfl hr ?_ ?_
  · rintro ⟨a, w, h⟩
    simp [Exit.thenS, bodyPostS] at h
  · simp only [Tryz.ntmps119]
    go_wp2
    simp only [Exit.thenS]
    refine wpS_of_wp ?_
    simp only [Array.replicate_succ, Array.replicate_zero, List.push_toArray, List.append_toArray, List.nil_append, List.cons_append, List.setIfInBounds_toArray, List.set_cons_zero, List.set_cons_succ]
    go_wp2
    refine ⟨rfl, .returning, by cases c₀; simp_all, .tuple #[], ?_, rfl, rfl, rfl⟩
    simp [results, Tryz.results119]

theorem rng0 {w : World} {be : Nat} {g : ByteArray → Option Value} (h : Mg w be 0 g) : ∃ c : Nat, (Instr.range 94 (.map (some be))).run Tryz.prog w = .ok (.pointer (some ⟨w.heap.size, 0, none⟩)) (w.alloc (.mapIter (some be) c #[] c)) ∧
    ∀ ty, (Instr.next (.pointer (some ⟨w.heap.size, 0, none⟩)) false ty).run Tryz.prog (w.alloc (.mapIter (some be) c #[] c)) = .ok (.tuple #[.bool false]) (w.alloc (.mapIter (some be) c #[] c)) := by
  have hlt := h.lt
  obtain ⟨es, clock, hb, hst, hkeys, hn, hg⟩ := h
  have hes : es = #[] := Array.eq_empty_of_size_eq_zero hn
  subst hes
  have hu : Tryz.prog.underlying 94 = some (.map 9 30) := by kernel_rfl
  refine ⟨clock, ?_, ?_⟩
  · simp [Instr.range, run_underlying hu, MapKept.run_getObj_map hb, Result.andThen]
  · intro ty
    have hr := heap_alloc_new w (.mapIter (some be) clock #[] clock)
    have hb2 : (w.alloc (.mapIter (some be) clock #[] clock)).heap[be]? = some (.map #[] clock) := (Below.heap_alloc _ _ be hlt).trans hb
    rcases run_next_at (P := Tryz.prog) (w.alloc (.mapIter (some be) clock #[] clock)) ty w.heap.size be clock clock #[] #[] clock hr hb2 (by simp) (Nat.le_refl _) with ⟨_, h1⟩ | ⟨e, he, _⟩
    · exact h1
    · simp [leftOf] at he

theorem Kp.refl (W : World) (bp bs : Nat) : Kp W W bp bs := ⟨rfl, rfl, rfl, Nat.le_refl _, fun _ _ _ _ => rfl⟩

theorem Kp.trans {W w w' : World} {bp bs : Nat} (h : Kp W w bp bs) (k : Kp w w' bp bs) : Kp W w' bp bs := ⟨k.os.trans h.os, k.tape.trans h.tape, k.output.trans h.output, Nat.le_trans h.size k.size, fun i hi h1 h2 => (k.block i (Nat.lt_of_lt_of_le hi h.size) h1 h2).trans (h.block i hi h1 h2)⟩

theorem Kp.below {W w w' : World} {bp bs : Nat} (h : Kp W w bp bs) {B : Nat} (hb : Below B w w') (hB : W.heap.size ≤ B) : Kp W w' bp bs := ⟨hb.os.trans h.os, hb.tape.trans h.tape, hb.output.trans h.output, Nat.le_trans h.size hb.size, fun i hi h1 h2 => (hb.block i (by omega)).trans (h.block i hi h1 h2)⟩

theorem fill_res {tmps : Array Value} {V : World} {g : Nat} {x y : Value} (h4 : tmps[4]?.getD undef = .pointer (some ⟨g, 0, none⟩)) (h5 : tmps[5]?.getD undef = .pointer (some ⟨g + 1, 0, none⟩)) (b0 : Ob V g #[x] 9) (b1 : Ob V (g + 1) #[y] 77) :
    (results Tryz.f70 tmps).run Tryz.prog V = .ok (.tuple #[x, y]) V := by
  have hl : (loadVar 77 ⟨g + 1, 0, none⟩).run Tryz.prog V = .ok y V := by
    obtain ⟨c1, c2, c3⟩ := ob1 b1
    simp [go_sem, c1]
  have hl0 : (loadVar 9 ⟨g, 0, none⟩).run Tryz.prog V = .ok x V := by
    obtain ⟨c1, c2, c3⟩ := ob1 b0
    simp [go_sem, c1]
  simp [results, Tryz.results70, h4, h5, asAddr, hl, hl0]

structure Fl (W w : World) (bp bs be : Nat) (A : ByteArray) : Prop where
  r4 : Ob w W.heap.size #[.string ⟨#[]⟩] 9
  r5 : Ob w (W.heap.size + 1) #[.int .i64 0] 77
  po : ∃ vf ad, Po w bp bs be vf 3 (gput (gput (gput (fun _ => none) (strOfNums [97, 46, 98]) (pkgV A)) (strOfNums [97]) (pkgV A)) (strOfNums [97, 46, 98, 46, 77]) (.agg #[.int .i64 2, .string A, .pointer ad, .pointer none, .pointer none]))
  kp : Kp W w bp bs

set_option maxRecDepth 100000 in
set_option maxHeartbeats 8000000 in
theorem pfill (A Y : ByteArray) (hA : A.size ≤ 1000000) (hY : Y.size ≤ 1000000) (gm gf : Nat) (W : World) {bp bs be : Nat} (hP : Hid (Po W bp bs be (.slice none 0 0) 0 (fun _ => none))) (hgm : Ob W gm (msg0 (strOfNums [77])) 40) (hgf : Ob W gf (fil1 A (strOfNums [97, 46, 98]) Y gm) 62) (hgn : gm ≠ bs) :
    Calls Tryz.prog 70 #[.pointer (some ⟨bp, 0, none⟩), .slice (some ⟨gf, 0, none⟩) 1 1] W fun e W' => e = .returned (.tuple #[.string ⟨#[]⟩, .int .i64 0]) ∧ Kp W W' bp bs ∧ ∃ vf ad, Po W' bp bs be vf 3 (gput (gput (gput (fun _ => none) (strOfNums [97, 46, 98]) (pkgV A)) (strOfNums [97]) (pkgV A)) (strOfNums [97, 46, 98, 46, 77]) (.agg #[.int .i64 2, .string A, .pointer ad, .pointer none, .pointer none])) := by
  have hmf : ∀ (fn : Fn) (first cap : Array Value) (w : World), (Instr.makeFunc fn first cap).run Tryz.prog w = .ok (.func fn first cap) w := fun _ _ _ _ => rfl
  obtain ⟨w1, hw1⟩ : ∃ w1, w1 = (W.alloc (.cells #[.string ⟨#[]⟩] 9)).alloc (.cells #[.int .i64 0] 77) := ⟨_, rfl⟩
  have hb1 : Below W.heap.size W w1 := by rw [hw1]; exact ((Below.refl _ _).alloc (Nat.le_refl _) _).alloc (by simp) _
  have r4 : Ob w1 W.heap.size #[.string ⟨#[]⟩] 9 := by rw [hw1]; exact (Ob.new _ _ _).alloc _
  have r5 : Ob w1 (W.heap.size + 1) #[.int .i64 0] 77 := by rw [hw1]; have := Ob.new (W.alloc (.cells #[.string ⟨#[]⟩] 9)) #[.int .i64 0] 77; simpa using this
  have P1 := hP.out.below hb1 (Nat.le_refl _)
  have g1 := hgm.below hb1 hgm.lt
  have f1 := hgf.below hb1 hgf.lt
  obtain ⟨w2, hw2⟩ : ∃ w2, w2 = w1.alloc (.cells (fil1 A (strOfNums [97, 46, 98]) Y gm) 62) := ⟨_, rfl⟩
  have hb2 : Below w1.heap.size w1 w2 := by rw [hw2]; exact (Below.refl _ _).alloc (Nat.le_refl _) _
  have QL : Hid _ := playF A Y hA hY gm w2 (show Hid _ from P1.below hb2 (Nat.le_refl _)) (g1.below hb2 g1.lt) hgn
  have b2 : Ob w2 w1.heap.size (fil1 A (strOfNums [97, 46, 98]) Y gm) 62 := by rw [hw2]; exact Ob.new _ _ _
  have R4 : Hid _ := r4.below hb2 r4.lt
  have R5 : Hid _ := r5.below hb2 r5.lt
  have HK2 : Hid (Kp W w2 bp bs) := ((Kp.refl W bp bs).below hb1 (Nat.le_refl _)).below hb2 (Nat.le_of_lt r4.lt)
  have HL : Hid (bp < W.heap.size ∧ bs < W.heap.size) := ⟨hP.out.blk.lt, hP.out.sym.lt⟩
  have HX : Hid (be < W.heap.size) := hP.out.ext.lt
  unfold fil1 at *
  obtain ⟨⟨c0, c1, c2, c3, c4, c5, c6, c7, c8, c9, c10⟩, _, cl⟩ := ob11 f1
  obtain ⟨⟨d0, d1, d2, d3, d4, d5, d6, d7, d8, d9, d10⟩, _, dl⟩ := ob11 b2
  have HW1 : Hid _ := hw1
  have HW2 : Hid _ := hw2
  clear hb1 hb2 r4 r5 P1 g1 f1 b2 hw1 hw2 hgm hgf hP
  generalize hK : (strOfNums [97, 46, 98]) = K at *
  have HK : Hid _ := hK
  clear hK
  go_enter_defers Tryz.func70, Tryz.ntmps70
  go_upto_region 2 with fail
  rw [← HW1.out]
  clear HW1
  go_wp2
  go_loopw [13] (fun v wr => (v = .int .i64 0 ∧ w1 = wr) ∨ (v = .int .i64 1 ∧ Hid (Fl W wr bp bs be A))) (fun v _ => 1 - (intOf v).toNat)
  case atStart => exact .inl ⟨rfl, rfl⟩
  case round =>
    rcases hrel with ⟨rfl, rfl⟩ | ⟨rfl, HF⟩
    · go_upto_region 5 with fail
      rw [← HW2.out]
      clear HW2
      go_wp2_with fail
      refine Calls.mono QL.out ?_
      rintro e w3 ⟨rfl, hk3, hp3⟩
      have HF3 : Hid (Fl W w3 bp bs be A) := ⟨hk3.ob R4.out (by have := HL.out; omega) (by have := HL.out; omega), hk3.ob R5.out (by have := HL.out; omega) (by have := HL.out; omega), by rw [HK.out]; exact hp3, HK2.out.trans hk3⟩
      clear hk3 hp3 QL c0 c1 c2 c3 c4 c5 c6 c7 c8 c9 c10 cl d0 d1 d2 d3 d4 d5 d6 d7 d8 d9 d10 dl
      go_wp2
      go_roundw
      case rel => first | exact .inr ⟨by go_num, HF3⟩ | ((repeat apply Exists.intro); exact ⟨.inr ⟨by go_num, HF3⟩, rfl⟩)
      case measure => simp [intOf]
    · obtain ⟨vf, ad, hp⟩ := HF.out.po
      obtain ⟨c, hrg, hnx⟩ := rng0 hp.ext
      have x2 : wr.cell? ⟨bp, 2, none⟩ = some (.map (some be)) := hp.blk.cell 2 rfl
      have xl := hp.blk.lt
      obtain ⟨w5, hw5⟩ : ∃ w5, w5 = wr.alloc (.mapIter (some be) c #[] c) := ⟨_, rfl⟩
      rw [← hw5] at hrg hnx
      have hb5 : Below wr.heap.size wr w5 := by rw [hw5]; exact (Below.refl _ _).alloc (Nat.le_refl _) _
      have q4 := HF.out.r4.below hb5 HF.out.r4.lt
      have q5 := HF.out.r5.below hb5 HF.out.r5.lt
      have P5 : Hid (Po w5 bp bs be vf 3 (gput (gput (gput (fun _ => none) (strOfNums [97, 46, 98]) (pkgV A)) (strOfNums [97]) (pkgV A)) (strOfNums [97, 46, 98, 46, 77]) (.agg #[.int .i64 2, .string A, .pointer ad, .pointer none, .pointer none]))) := hp.below hb5 (Nat.le_refl _)
      have HK5 : Hid (Kp W w5 bp bs) := HF.out.kp.below hb5 HF.out.kp.size
      obtain ⟨y1, y2, y3⟩ := ob1 q4
      obtain ⟨z1, z2, z3⟩ := ob1 q5
      have Q4 : Hid _ := q4
      have Q5 : Hid _ := q5
      clear hp hw5 hb5 q4 q5 HF QL HW2 c0 c1 c2 c3 c4 c5 c6 c7 c8 c9 c10 cl d0 d1 d2 d3 d4 d5 d6 d7 d8 d9 d10 dl R4 R5 HK2
      go_wp2
      go_loopw [26] (fun _ wx => w5 = wx) (fun _ _ => 0)
      case atStart => exact rfl
      case round =>
        obtain rfl := hrel
        go_wp2
        refine leaves_cons (f := 119) (args := #[.pointer (some ⟨W.heap.size, 0, none⟩), .pointer (some ⟨W.heap.size + 1, 0, none⟩)]) (by simp) (by simp [go_sem]) ?_
        refine (fill_idle _ _ _).mono ?_
        rintro e u' w'' ⟨rfl, rfl, rfl⟩
        have s4 : Ob ((w5.setCell ⟨W.heap.size, 0, none⟩ (.string ⟨#[]⟩)).setCell ⟨W.heap.size + 1, 0, none⟩ (.int .i64 0)) W.heap.size #[.string ⟨#[]⟩] 9 := by have := (Q4.out.set 0 (.string ⟨#[]⟩)).other (b' := W.heap.size + 1) (by omega) 0 (.int .i64 0); simpa using this
        have s5 : Ob ((w5.setCell ⟨W.heap.size, 0, none⟩ (.string ⟨#[]⟩)).setCell ⟨W.heap.size + 1, 0, none⟩ (.int .i64 0)) (W.heap.size + 1) #[.int .i64 0] 77 := by have := (Q5.out.other (b' := W.heap.size) (by omega) 0 (.string ⟨#[]⟩)).set 0 (.int .i64 0); simpa using this
        have hb6 : Below W.heap.size w5 ((w5.setCell ⟨W.heap.size, 0, none⟩ (.string ⟨#[]⟩)).setCell ⟨W.heap.size + 1, 0, none⟩ (.int .i64 0)) := ((Below.refl _ _).setCell (p := ⟨W.heap.size, 0, none⟩) (Nat.le_refl _) _).setCell (p := ⟨W.heap.size + 1, 0, none⟩) (by simp) _
        generalize ((w5.setCell ⟨W.heap.size, 0, none⟩ (.string ⟨#[]⟩)).setCell ⟨W.heap.size + 1, 0, none⟩ (.int .i64 0)) = V at s4 s5 hb6 ⊢
        have hA7 : Below V.heap.size V (V.alloc (.cells #[.string ⟨#[]⟩] 173)) := (Below.refl _ _).alloc (Nat.le_refl _) _
        have hp := P5.out
        have hl := HL.out
        have hWV : W.heap.size ≤ V.heap.size := Nat.le_of_lt s4.lt
        have hb7 : Below W.heap.size w5 (V.alloc (.cells #[.string ⟨#[]⟩] 173)) := hb6.trans (hA7.mono hWV)
        have hx := HX.out
        refine ⟨.tuple #[.string ⟨#[]⟩, .int .i64 0], fill_res rfl rfl (s4.below hA7 s4.lt) (s5.below hA7 s5.lt), rfl, HK5.out.below hb7 (Nat.le_refl _), vf, ad, ?_⟩
        rw [HK.out] at hp
        exact ⟨hp.blk.below hb7 (by omega), hp.sym.below hb7 (by omega), hp.ext.below hb7 hx, hp.ne, hp.sl⟩

theorem pool_ret {fn : Func} {R : Ending → World → Prop} {a : Act} {w : World} {p : Tmp} (h : fn.results = #[.cell p 96]) (gb : Nat) (cs : Array Value) (hs : cs.size = 3) (hp : a.tmps.getD p undef = .pointer (some ⟨gb, 0, none⟩)) (hg : Ob w gb cs 96) (hd : a.defers = []) (hR : R (.returned (.agg cs)) w) : bodyPost Tryz.prog fn R .ret a w := by
  refine bodyPost_ret (v := .agg cs) ?_ hd hR
  have hp' : a.tmps[p]?.getD undef = .pointer (some ⟨gb, 0, none⟩) := by simpa using hp
  have hsz : (Tryz.prog.info? 96).map (·.size) = some 3 := by kernel_rfl
  have hl := run_loadVar_row (P := Tryz.prog) w gb 96 96 cs (0, 0) _ hg.eq Tryz.underlying96 rfl (hsz.trans (by rw [hs]))
  simp [results, h, hp', asAddr, hl]

set_option maxRecDepth 20000 in
set_option maxHeartbeats 4000000 in
theorem pthere (bp : Nat) (xa : Option Addr) (xn xc : Nat) (ym zm : Option Nat) (W : World) (hb : Ob W bp #[.slice xa xn xc, .map ym, .map zm] 96) :
    Calls Tryz.prog 39 #[.pointer (some ⟨bp, 0, none⟩)] W fun e W' => e = .returned (.agg #[.slice xa xn xc, .map ym, .map zm]) ∧ Below W.heap.size W W' := by
  obtain ⟨⟨c0, c1, c2⟩, _, cl⟩ := ob3 hb
  have hcl : bp < W.heap.size := cl
  have n1 : Ob (W.alloc (.cells #[.slice none 0 0, .map none, .map none] 96)) W.heap.size #[.slice none 0 0, .map none, .map none] 96 := Ob.new _ _ _
  have n2 : Ob (W.alloc (.cells #[.slice xa xn xc, .map ym, .map zm] 96)) W.heap.size #[.slice xa xn xc, .map ym, .map zm] 96 := Ob.new _ _ _
  have HN : Hid _ := n2
  have HB : Hid (Below W.heap.size W (W.alloc (.cells #[.slice xa xn xc, .map ym, .map zm] 96))) := (Below.refl _ _).alloc (Nat.le_refl _) _
  clear n1 n2 hb
  go_enter Tryz.func39, Tryz.ntmps39
  go_wp2
  refine pool_ret (p := 2) ?_ W.heap.size #[.slice xa xn xc, .map ym, .map zm] rfl ?_ HN.out ?_ ?_
  · rfl
  · rfl
  · rfl
  · exact ⟨rfl, HB.out⟩

set_option maxRecDepth 20000 in
set_option maxHeartbeats 4000000 in
theorem pkind1 {bp bs be n : Nat} {vf : Value} {g : ByteArray → Option Value} (W : World) (hP : Hid (Po W bp bs be vf n g)) (F : ByteArray) (hF : F.size ≤ maxLen) (x0 : Int) (x1 : ByteArray) (x2 x3 x4 : Option Addr) (hg : g F = some (.agg #[.int .i64 x0, .string x1, .pointer x2, .pointer x3, .pointer x4]))  :
    Calls Tryz.prog 19 #[.pointer (some ⟨bp, 0, none⟩), .string F] W fun e W' => e = .returned (.int .i64 x0) ∧ Below W.heap.size W W' := by
  obtain ⟨va, vn, vc, rfl⟩ := hP.out.sl
  have Q : Hid _ := pthere bp va vn vc (some bs) (some be) W hP.out.blk
  have hlk : ∀ w1, Below W.heap.size W w1 → (Instr.lookup 88 (.map (some bs)) (.string F) false).run Tryz.prog w1 = .ok (.agg #[.int .i64 x0, .string x1, .pointer x2, .pointer x3, .pointer x4]) w1 := fun w1 hb => by
    have := (hP.out.below hb (Nat.le_refl _)).sym.look symMap (zeroSym w1) F hF false
    rw [hg] at this
    simpa [mlook] using this
  have HLK : Hid _ := hlk
  have hf1 : ∀ w, (Instr.field 96 (.agg #[.slice va vn vc, .map (some bs), .map (some be)]) 1).run Tryz.prog w = .ok (.map (some bs)) w := fun w => by kernel_rfl
  have hf2 : ∀ w, (Instr.field 93 (.agg #[.int .i64 x0, .string x1, .pointer x2, .pointer x3, .pointer x4]) 0).run Tryz.prog w = .ok (.int .i64 x0) w := fun w => by kernel_rfl
  clear hlk hg hP hF
  go_enter Tryz.func19, Tryz.ntmps19
  go_wp2_with fail
  refine Calls.mono Q.out ?_
  rintro e w1 ⟨rfl, hb1⟩
  have hl1 := HLK.out w1 hb1
  have HB1 : Hid (Below W.heap.size W w1) := hb1
  clear hb1 HLK Q
  go_wp2
  go_ret
  exact ⟨rfl, HB1.out⟩

set_option maxRecDepth 20000 in
set_option maxHeartbeats 4000000 in
theorem phome1 {bp bs be n : Nat} {vf : Value} {g : ByteArray → Option Value} (W : World) (hP : Hid (Po W bp bs be vf n g)) (F : ByteArray) (hF : F.size ≤ maxLen) (x0 : Int) (x1 : ByteArray) (x2 x3 x4 : Option Addr) (hg : g F = some (.agg #[.int .i64 x0, .string x1, .pointer x2, .pointer x3, .pointer x4])) (hv : x1.size ≤ 1000000) :
    Calls Tryz.prog 20 #[.pointer (some ⟨bp, 0, none⟩), .string F] W fun e W' => e = .returned (.string x1) ∧ Below W.heap.size W W' := by
  obtain ⟨va, vn, vc, rfl⟩ := hP.out.sl
  have Q : Hid _ := pthere bp va vn vc (some bs) (some be) W hP.out.blk
  have hlk : ∀ w1, Below W.heap.size W w1 → (Instr.lookup 88 (.map (some bs)) (.string F) false).run Tryz.prog w1 = .ok (.agg #[.int .i64 x0, .string x1, .pointer x2, .pointer x3, .pointer x4]) w1 := fun w1 hb => by
    have := (hP.out.below hb (Nat.le_refl _)).sym.look symMap (zeroSym w1) F hF false
    rw [hg] at this
    simpa [mlook] using this
  have HLK : Hid _ := hlk
  have hf1 : ∀ w, (Instr.field 96 (.agg #[.slice va vn vc, .map (some bs), .map (some be)]) 1).run Tryz.prog w = .ok (.map (some bs)) w := fun w => by kernel_rfl
  have hf2 : ∀ w, (Instr.field 93 (.agg #[.int .i64 x0, .string x1, .pointer x2, .pointer x3, .pointer x4]) 1).run Tryz.prog w = .ok (.string x1) w := fun w => by kernel_rfl
  clear hlk hg hP hF
  go_enter Tryz.func20, Tryz.ntmps20
  go_wp2_with fail
  refine Calls.mono Q.out ?_
  rintro e w1 ⟨rfl, hb1⟩
  have hl1 := HLK.out w1 hb1
  have HB1 : Hid (Below W.heap.size W w1) := hb1
  clear hb1 HLK Q
  go_wp2_with fail
  refine Calls.mono (pnclone_any _ _ hv) ?_
  rintro e w2 ⟨rfl, hb2⟩
  have HB2 : Hid (Below W.heap.size W w2) := HB1.out.trans (hb2.mono HB1.out.size)
  clear hb2 HB1
  go_wp2
  go_ret
  exact ⟨rfl, HB2.out⟩

set_option maxRecDepth 20000 in
set_option maxHeartbeats 4000000 in
theorem pnew1 (A Y : ByteArray) (hA : A.size ≤ 1000000) (hY : Y.size ≤ 1000000) (gm gf : Nat) (W : World) (hgm : Ob W gm (msg0 (strOfNums [77])) 40) (hgf : Ob W gf (fil1 A (strOfNums [97, 46, 98]) Y gm) 62) :
    Calls Tryz.prog 33 #[.slice (some ⟨gf, 0, none⟩) 1 1] W fun e W' => ∃ bp bs be vf ad, e = .returned (.tuple #[.pointer (some ⟨bp, 0, none⟩), .string ⟨#[]⟩, .int .i64 0]) ∧ Below W.heap.size W W' ∧ Po W' bp bs be vf 3 (gput (gput (gput (fun _ => none) (strOfNums [97, 46, 98]) (pkgV A)) (strOfNums [97]) (pkgV A)) (strOfNums [97, 46, 98, 46, 77]) (.agg #[.int .i64 2, .string A, .pointer ad, .pointer none, .pointer none])) := by
  have hmm := @run_makeMap Tryz.prog
  have QC : Hid _ := pconf1 A (strOfNums [97, 46, 98]) Y (strOfNums [77]) gm gf W hgm hgf
  have GM : Hid _ := hgm
  have GF : Hid _ := hgf
  have HAY : Hid (A.size ≤ 1000000 ∧ Y.size ≤ 1000000) := ⟨hA, hY⟩
  clear hgm hgf hA hY
  go_enter Tryz.func33, Tryz.ntmps33
  go_wp2_with fail
  refine Calls.mono QC.out ?_
  rintro e w1 ⟨rfl, hb1⟩
  obtain ⟨w2, hw2⟩ : ∃ w2, w2 = ((w1.alloc (.map #[] 0)).alloc (.map #[] 0)).alloc (.cells #[.slice none 0 0, .map (some w1.heap.size), .map (some (w1.heap.size + 1))] 96) := ⟨_, rfl⟩
  have hb2 : Below w1.heap.size w1 w2 := by rw [hw2]; exact (((Below.refl _ _).alloc (Nat.le_refl _) _).alloc (by simp) _).alloc (by simp; omega) _
  have P2 : Hid (Po w2 (w1.heap.size + 1 + 1) w1.heap.size (w1.heap.size + 1) (.slice none 0 0) 0 (fun _ => none)) := by
    refine ⟨?_, ?_, ?_, ⟨by omega, by omega, by omega⟩, ⟨_, _, _, rfl⟩⟩
    · rw [hw2]
      have := Ob.new ((w1.alloc (.map #[] 0)).alloc (.map #[] 0)) #[.slice none 0 0, .map (some w1.heap.size), .map (some (w1.heap.size + 1))] 96
      simpa using this
    · rw [hw2]
      exact ((Mg.made w1).below (m := w1.heap.size + 1) ((Below.refl _ _).alloc (by simp) _) (by omega)).below (m := w1.heap.size + 1) ((Below.refl _ _).alloc (by simp) _) (by omega)
    · rw [hw2]
      have := (Mg.made (w1.alloc (.map #[] 0))).below (m := w1.heap.size + 1 + 1) ((Below.refl _ _).alloc (o := .cells #[.slice none 0 0, .map (some w1.heap.size), .map (some (w1.heap.size + 1))] 96) (by simp)) (by simp)
      simpa using this
  have hgl := GM.out.lt
  have QF : Hid _ := pfill A Y HAY.out.1 HAY.out.2 gm gf w2 P2 ((GM.out.below hb1 GM.out.lt).below hb2 (Nat.lt_of_lt_of_le GM.out.lt hb1.size)) ((GF.out.below hb1 GF.out.lt).below hb2 (Nat.lt_of_lt_of_le GF.out.lt hb1.size)) (by have := hb1.size; omega)
  have HB2 : Hid (Below W.heap.size W w2) := hb1.trans (hb2.mono hb1.size)
  have HS : Hid (W.heap.size ≤ w1.heap.size) := hb1.size
  have HW2 : Hid _ := hw2
  clear hb1 hb2 hw2 QC GM GF hgl P2
  go_upto_region 4 with fail
  rw [← HW2.out]
  clear HW2
  go_wp2_with fail
  refine Calls.mono QF.out ?_
  rintro e w3 ⟨rfl, hk3, vf, ad, hp3⟩
  have hb3 : Below W.heap.size w2 w3 := ⟨hk3.os, hk3.tape, hk3.output, hk3.size, fun k hk => hk3.block k (by have := HB2.out.size; omega) (by have := HS.out; omega) (by have := HS.out; omega)⟩
  have HB3 : Hid (Below W.heap.size W w3) := HB2.out.trans hb3
  have P3 : Hid _ := hp3
  clear hk3 hp3 hb3 QF
  go_wp2
  go_ret3
  exact ⟨_, _, _, vf, ad, rfl, HB3.out, P3.out⟩

theorem s77 : strOfNums [77] = ⟨#[77]⟩ := by kernel_rfl

theorem s97 : strOfNums [97] = ⟨#[97]⟩ := by kernel_rfl

theorem sab : strOfNums [97, 46, 98] = ⟨#[97, 46, 98]⟩ := by kernel_rfl

theorem sabM : strOfNums [97, 46, 98, 46, 77] = ⟨#[97, 46, 98, 46, 77]⟩ := by kernel_rfl

theorem g3_a (A : ByteArray) (ad : Option Addr) : (gput (gput (gput (fun _ => none) (strOfNums [97, 46, 98]) (pkgV A)) (strOfNums [97]) (pkgV A)) (strOfNums [97, 46, 98, 46, 77]) (.agg #[.int .i64 2, .string A, .pointer ad, .pointer none, .pointer none])) (strOfNums [97]) = some (.agg #[.int .i64 1, .string A, .pointer none, .pointer none, .pointer none]) := by
  unfold gput
  rw [if_neg, if_pos rfl]
  · rfl
  · intro e; have := str_inj (by unfold byts; decide) (by unfold byts; decide) e; cases this

theorem g3_M (A : ByteArray) (ad : Option Addr) : (gput (gput (gput (fun _ => none) (strOfNums [97, 46, 98]) (pkgV A)) (strOfNums [97]) (pkgV A)) (strOfNums [97, 46, 98, 46, 77]) (.agg #[.int .i64 2, .string A, .pointer ad, .pointer none, .pointer none])) (strOfNums [97, 46, 98, 46, 77]) = some (.agg #[.int .i64 2, .string A, .pointer ad, .pointer none, .pointer none]) := by
  unfold gput
  rw [if_pos rfl]

set_option maxRecDepth 20000 in
set_option maxHeartbeats 4000000 in
theorem vawake_any (W : World) : Calls Tryz.prog 9 #[] W fun e W' => e = .returned (.bool true) ∧ Below W.heap.size W W' := by
  obtain ⟨w2, hw2⟩ : ∃ w2, w2 = (W.alloc (.cells #[.string ⟨#[77]⟩, .slice none 0 0, .slice none 0 0, .slice none 0 0, .slice none 0 0, .slice none 0 0, .slice none 0 0, .slice none 0 0, .slice none 0 0, .slice none 0 0, .slice none 0 0] 40)).alloc (.cells #[.string ⟨#[120]⟩, .string ⟨#[97, 46, 98]⟩, .slice none 0 0, .slice none 0 0, .slice (some ⟨W.heap.size, 0, none⟩) 1 1, .slice none 0 0, .slice none 0 0, .slice none 0 0, .string ⟨#[]⟩, .slice none 0 0, .slice none 0 0] 62) := ⟨_, rfl⟩
  have hb2 : Below W.heap.size W w2 := by rw [hw2]; exact ((Below.refl _ _).alloc (Nat.le_refl _) _).alloc (by simp) _
  have om : Ob w2 W.heap.size (msg0 (strOfNums [77])) 40 := by rw [hw2, s77]; exact (Ob.new _ _ _).alloc _
  have of : Ob w2 (W.heap.size + 1) (fil1 ⟨#[120]⟩ (strOfNums [97, 46, 98]) ⟨#[]⟩ W.heap.size) 62 := by
    rw [hw2, sab]
    have := Ob.new (W.alloc (.cells #[.string ⟨#[77]⟩, .slice none 0 0, .slice none 0 0, .slice none 0 0, .slice none 0 0, .slice none 0 0, .slice none 0 0, .slice none 0 0, .slice none 0 0, .slice none 0 0, .slice none 0 0] 40)) #[.string ⟨#[120]⟩, .string ⟨#[97, 46, 98]⟩, .slice none 0 0, .slice none 0 0, .slice (some ⟨W.heap.size, 0, none⟩) 1 1, .slice none 0 0, .slice none 0 0, .slice none 0 0, .string ⟨#[]⟩, .slice none 0 0, .slice none 0 0] 62
    simpa [fil1] using this
  have QN : Hid _ := pnew1 ⟨#[120]⟩ ⟨#[]⟩ (by decide) (by decide) W.heap.size (W.heap.size + 1) w2 om of
  have HB2 : Hid _ := hb2
  have HW2 : Hid _ := hw2
  have hx : ((⟨#[120]⟩ : ByteArray).toList == [120]) = true := by kernel_rfl
  clear hb2 om of hw2
  go_enter Tryz.func9, Tryz.ntmps9
  go_wp2_with fail
  rw [← HW2.out]
  clear HW2
  refine Calls.mono QN.out ?_
  rintro e w3 ⟨bp, bs, be, vf, ad, rfl, hb3, hp3⟩
  have QK : Hid _ := pkind1 w3 hp3 (strOfNums [97]) (by rw [strOfNums_size]; decide) 1 ⟨#[120]⟩ none none none (g3_a ⟨#[120]⟩ ad)
  rw [s97] at QK
  have P3 : Hid _ := hp3
  have HB3 : Hid (Below W.heap.size W w3) := HB2.out.trans (hb3.mono HB2.out.size)
  clear hp3 hb3 QN HB2
  go_wp2_with fail
  refine Calls.mono QK.out ?_
  rintro e w4 ⟨rfl, hb4⟩
  have hp4 := P3.out.below hb4 (Nat.le_refl _)
  have QM : Hid _ := pkind1 w4 hp4 (strOfNums [97, 46, 98, 46, 77]) (by rw [strOfNums_size]; decide) 2 ⟨#[120]⟩ ad none none (g3_M ⟨#[120]⟩ ad)
  rw [sabM] at QM
  have P4 : Hid _ := hp4
  have HB4 : Hid (Below W.heap.size W w4) := HB3.out.trans (hb4.mono HB3.out.size)
  clear hp4 hb4 QK P3 HB3
  go_wp2_with fail
  refine Calls.mono QM.out ?_
  rintro e w5 ⟨rfl, hb5⟩
  have hp5 := P4.out.below hb5 (Nat.le_refl _)
  have QH : Hid _ := phome1 w5 hp5 (strOfNums [97, 46, 98, 46, 77]) (by rw [strOfNums_size]; decide) 2 ⟨#[120]⟩ ad none none (g3_M ⟨#[120]⟩ ad) (by decide)
  rw [sabM] at QH
  have HB5 : Hid (Below W.heap.size W w5) := HB4.out.trans (hb5.mono HB4.out.size)
  clear hp5 hb5 QM P4 HB4
  go_wp2_with fail
  refine Calls.mono QH.out ?_
  rintro e w6 ⟨rfl, hb6⟩
  have HB6 : Hid (Below W.heap.size W w6) := HB5.out.trans (hb6.mono HB5.out.size)
  clear hb6 QH HB5
  go_wp2
  go_ret
  exact ⟨rfl, HB6.out⟩

end Go.Proofs.YtafmoceinamcdaaGreat
