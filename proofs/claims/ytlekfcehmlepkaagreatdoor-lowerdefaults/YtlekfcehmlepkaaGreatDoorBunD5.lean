/- Put together by a program out of these texts of mine: TInt, NStr, NRef4, TMem, TMath, TChk0. -/
import Derived.SliceStrings
import Derived.Deep.Slices
import Derived.Test.YtlekfcehmlepkaaGreatDoorBunD4

namespace Go.Proofs.YtlekfcehmlepkaaGreatDoor
open Go.RowKit
set_option linter.unusedVariables false
set_option linter.unusedSimpArgs false

def tintd (minus : Bool) (d : List Int) : Int × Bool × Bool :=
 if (qnum d).2 = false ∨ qdg 20 (qnum d).1 ≠ d ∨ (minus = true ∧ ((qnum d).1 = 0 ∨ 9223372036854775808 < (qnum d).1)) then (0,false,false) else ((qnum d).1,minus,true)

def tint (s : List Int) : Int × Bool × Bool := if s.getD 0 0 = 45 then tintd true (s.drop 1) else tintd false s

theorem qnm_bd (base : Int) (hb : 0 < base) : ∀ (s : List Int) (n : Int),0 ≤ n → n ≤ 18446744073709551615 → 0 ≤ (qnm base s n).1 ∧ (qnm base s n).1 ≤ 18446744073709551615
 | [],n,h0,h1 => by rw [qnm]; exact ⟨h0,h1⟩
 | c :: r,n,h0,h1 => by
  rw [qnm]
  by_cases h : base ≤ dgt c ∨ (18446744073709551615 - dgt c) / base < n
  ·rw [if_pos h]; decide
  ·rw [if_neg h]
   have hd := dgt_bd c
   have hm : 0 ≤ n * base := Int.mul_nonneg h0 (by omega)
   have hle : n ≤ (18446744073709551615 - dgt c) / base := by omega
   have := Int.mul_le_of_le_ediv hb hle
   exact qnm_bd base hb r _ (by omega) (by omega)

theorem qnum_bd (s : List Int) : 0 ≤ (qnum s).1 ∧ (qnum s).1 ≤ 18446744073709551615 := by
 unfold qnum
 repeat' split
 all_goals first | (refine qnm_bd _ (by omega) _ _ (by omega) (by omega)) | (simp)

set_option maxHeartbeats 1000000 in
theorem rint_go (s : List Int) (m : Bool) (d : List Int) (w : World) (hm : s.getD 0 0 = 45 ∧ m = true ∧ d = s.drop 1 ∨ s.getD 0 0 ≠ 45 ∧ m = false ∧ d = s) (hz : Hid (∀ i,0 ≤ s.getD i 0 ∧ s.getD i 0 ≤ 255)) (hlen : (s.length : Int) ≤ 1000000) :
  Calls Tryz.prog 28 #[.string (strOfNums s)] w fun e w' => e = .returned (.tuple #[.int .u64 (tintd m d).1,.bool (tintd m d).2.1,.bool (tintd m d).2.2]) ∧ Below w.heap.size w w' := by
 have hdz : ∀ c ∈ d,0 ≤ c ∧ c ≤ 255 := by
  rcases hm with ⟨_,_,rfl⟩ | ⟨_,_,rfl⟩
  ·exact fun c hc => mem_bd hz.out c (List.mem_of_mem_drop hc)
  ·exact mem_bd hz.out
 have hdl : (d.length : Int) ≤ 1000000 := by
  rcases hm with ⟨_,_,rfl⟩ | ⟨_,_,rfl⟩
  ·rw [List.length_drop]; omega
  ·exact hlen
 have q := fun W => rnum_any d W (getD_bd hdz) (by omega)
 have hb := qnum_bd d
 have q2 := fun W => rdig_any (qnum d).1 W hb.1 hb.2
 have hdg := qdg_bd 20 (qnum d).1 hb.1
 have heq := str_eq (z1 := qdg 20 (qnum d).1) (z2 := d) (fun c hc => by have := hdg.1 c hc; omega) hdz
 have HD : Hid (tintd m d = if (qnum d).2 = false ∨ qdg 20 (qnum d).1 ≠ d ∨ (m = true ∧ ((qnum d).1 = 0 ∨ 9223372036854775808 < (qnum d).1)) then (0,false,false) else ((qnum d).1,m,true)) := rfl
 generalize (qnum d).1 = N at q q2 hb heq HD
 generalize (qnum d).2 = B at q HD
 obtain ⟨N0,N1⟩ := hb
 have Q1 : Hid _ := q
 have Q2 : Hid _ := q2
 clear q q2 hdg hdz
 rcases hm with ⟨h45,rfl,hd⟩ | ⟨h45,rfl,hd⟩
 ·have hs0 : s ≠ [] := fun h => by rw [h] at h45; simp at h45
  have hl : 0 < s.length := List.length_pos_iff.2 hs0
  obtain ⟨X,hX⟩ : ∃ X,X = strOfNums s := ⟨_,rfl⟩
  have hne : (X.toList == []) = false := by
   rw [hX]
   cases s with
   | nil => exact absurd rfl hs0
   | cons c r => exact str_ne c r
  have hsz : X.size = s.length := by rw [hX]; exact strOfNums_size s
  have hat : ((X[0]'(hsz ▸ hl)).toNat : Int) = 45 := by subst hX; rw [← h45]; exact str_at s hz.out 0 _
  have h1 : ∀ W,(Instr.slice 9 (.string X) (some (.int .i64 1)) none none).run Tryz.prog W = .ok (.string (strOfNums d)) W := by subst hX; rw [hd]; exact run_tail s 1 (by omega) _ rfl
  rw [← hX]
  clear hX h45 hd hs0
  generalize strOfNums d = DS at h1 Q1 heq
  cases B with
  | false =>
   have HE : Hid (tintd true d = (0,false,false)) := by show _ = _; rw [HD.out,if_pos (.inl rfl)]
   clear HD heq
   go_enter Tryz.func28,Tryz.ntmps28
   go_wp2_with fail
   refine Calls.mono (Q1.out _) ?_
   rintro e w1 ⟨rfl,hb1⟩
   go_wp2
   go_ret3
   exact ⟨by rw [HE.out]; rfl,hb1⟩
  | true =>
   by_cases hqd : qdg 20 N = d
   ·rw [show (qdg 20 N == d) = true by simpa using hqd] at heq
    by_cases hN0 : N = 0
    ·subst hN0
     have HE : Hid (tintd true d = (0,false,false)) := by show _ = _; rw [HD.out,if_pos (.inr (.inr ⟨rfl,.inl rfl⟩))]
     generalize strOfNums (qdg 20 0) = DG at Q2 heq
     clear HD hqd
     go_enter Tryz.func28,Tryz.ntmps28
     go_wp2_with fail
     refine Calls.mono (Q1.out _) ?_
     rintro e w1 ⟨rfl,hb1⟩
     go_wp2_with fail
     refine Calls.mono (Q2.out _) ?_
     rintro e w2 ⟨rfl,rfl⟩
     go_wp2
     go_ret3
     exact ⟨by rw [HE.out]; rfl,hb1⟩
    have e0 : (N == 0) = false := by simpa using hN0
    by_cases hN1 : 9223372036854775808 < N
    ·have HE : Hid (tintd true d = (0,false,false)) := by show _ = _; rw [HD.out,if_pos (.inr (.inr ⟨rfl,.inr hN1⟩))]
     generalize strOfNums (qdg 20 N) = DG at Q2 heq
     clear HD hqd
     go_enter Tryz.func28,Tryz.ntmps28
     go_wp2_with fail
     refine Calls.mono (Q1.out _) ?_
     rintro e w1 ⟨rfl,hb1⟩
     go_wp2_with fail
     refine Calls.mono (Q2.out _) ?_
     rintro e w2 ⟨rfl,rfl⟩
     go_wp2
     go_ret3
     exact ⟨by rw [HE.out]; rfl,hb1⟩
    have HE : Hid (tintd true d = (N,true,true)) := by
     show _ = _
     rw [HD.out,if_neg]
     rintro (h | h | ⟨_,h | h⟩)
     ·exact absurd h (by decide)
     ·exact h hqd
     ·exact hN0 h
     ·exact hN1 h
    generalize strOfNums (qdg 20 N) = DG at Q2 heq
    clear HD hqd
    go_enter Tryz.func28,Tryz.ntmps28
    go_wp2_with fail
    refine Calls.mono (Q1.out _) ?_
    rintro e w1 ⟨rfl,hb1⟩
    go_wp2_with fail
    refine Calls.mono (Q2.out _) ?_
    rintro e w2 ⟨rfl,rfl⟩
    go_wp2
    go_ret3
    exact ⟨by rw [HE.out]; rfl,hb1⟩
   ·rw [show (qdg 20 N == d) = false by simpa using hqd] at heq
    have HE : Hid (tintd true d = (0,false,false)) := by show _ = _; rw [HD.out,if_pos (.inr (.inl hqd))]
    generalize strOfNums (qdg 20 N) = DG at Q2 heq
    clear HD hqd
    go_enter Tryz.func28,Tryz.ntmps28
    go_wp2_with fail
    refine Calls.mono (Q1.out _) ?_
    rintro e w1 ⟨rfl,hb1⟩
    go_wp2_with fail
    refine Calls.mono (Q2.out _) ?_
    rintro e w2 ⟨rfl,rfl⟩
    go_wp2
    go_ret3
    exact ⟨by rw [HE.out]; rfl,hb1⟩
 ·subst hd
  obtain ⟨X,hX⟩ : ∃ X,X = strOfNums d := ⟨_,rfl⟩
  rw [← hX] at heq Q1 ⊢
  have hsz : X.size = d.length := by rw [hX]; exact strOfNums_size d
  by_cases hs0 : d = []
  ·have hne : (X.toList == []) = true := by rw [hX,hs0,str_list]; rfl
   clear hX h45 hs0
   cases B with
   | false =>
    have HE : Hid (tintd false d = (0,false,false)) := by show _ = _; rw [HD.out,if_pos (.inl rfl)]
    clear HD heq
    go_enter Tryz.func28,Tryz.ntmps28
    go_wp2_with fail
    refine Calls.mono (Q1.out _) ?_
    rintro e w1 ⟨rfl,hb1⟩
    go_wp2
    go_ret3
    exact ⟨by rw [HE.out]; rfl,hb1⟩
   | true =>
    by_cases hqd : qdg 20 N = d
    ·rw [show (qdg 20 N == d) = true by simpa using hqd] at heq
     have HE : Hid (tintd false d = (N,false,true)) := by
      show _ = _
      rw [HD.out,if_neg]
      rintro (h | h | ⟨h,_⟩)
      ·exact absurd h (by decide)
      ·exact h hqd
      ·exact absurd h (by decide)
     generalize strOfNums (qdg 20 N) = DG at Q2 heq
     clear HD hqd
     go_enter Tryz.func28,Tryz.ntmps28
     go_wp2_with fail
     refine Calls.mono (Q1.out _) ?_
     rintro e w1 ⟨rfl,hb1⟩
     go_wp2_with fail
     refine Calls.mono (Q2.out _) ?_
     rintro e w2 ⟨rfl,rfl⟩
     go_wp2
     go_ret3
     exact ⟨by rw [HE.out]; rfl,hb1⟩
    ·rw [show (qdg 20 N == d) = false by simpa using hqd] at heq
     have HE : Hid (tintd false d = (0,false,false)) := by show _ = _; rw [HD.out,if_pos (.inr (.inl hqd))]
     generalize strOfNums (qdg 20 N) = DG at Q2 heq
     clear HD hqd
     go_enter Tryz.func28,Tryz.ntmps28
     go_wp2_with fail
     refine Calls.mono (Q1.out _) ?_
     rintro e w1 ⟨rfl,hb1⟩
     go_wp2_with fail
     refine Calls.mono (Q2.out _) ?_
     rintro e w2 ⟨rfl,rfl⟩
     go_wp2
     go_ret3
     exact ⟨by rw [HE.out]; rfl,hb1⟩
  ·have hne : (X.toList == []) = false := by
    rw [hX]
    cases d with
    | nil => exact absurd rfl hs0
    | cons c r => exact str_ne c r
   have hl : 0 < d.length := List.length_pos_iff.2 hs0
   have hat : ((X[0]'(hsz ▸ hl)).toNat : Int) = d.getD 0 0 := by subst hX; exact str_at d hz.out 0 _
   generalize d.getD 0 0 = c0 at hat h45
   have e45 : (c0 == 45) = false := by simpa using h45
   clear hX h45 hs0
   cases B with
   | false =>
    have HE : Hid (tintd false d = (0,false,false)) := by show _ = _; rw [HD.out,if_pos (.inl rfl)]
    clear HD heq
    go_enter Tryz.func28,Tryz.ntmps28
    go_wp2_with fail
    refine Calls.mono (Q1.out _) ?_
    rintro e w1 ⟨rfl,hb1⟩
    go_wp2
    go_ret3
    exact ⟨by rw [HE.out]; rfl,hb1⟩
   | true =>
    by_cases hqd : qdg 20 N = d
    ·rw [show (qdg 20 N == d) = true by simpa using hqd] at heq
     have HE : Hid (tintd false d = (N,false,true)) := by
      show _ = _
      rw [HD.out,if_neg]
      rintro (h | h | ⟨h,_⟩)
      ·exact absurd h (by decide)
      ·exact h hqd
      ·exact absurd h (by decide)
     generalize strOfNums (qdg 20 N) = DG at Q2 heq
     clear HD hqd
     go_enter Tryz.func28,Tryz.ntmps28
     go_wp2_with fail
     refine Calls.mono (Q1.out _) ?_
     rintro e w1 ⟨rfl,hb1⟩
     go_wp2_with fail
     refine Calls.mono (Q2.out _) ?_
     rintro e w2 ⟨rfl,rfl⟩
     go_wp2
     go_ret3
     exact ⟨by rw [HE.out]; rfl,hb1⟩
    ·rw [show (qdg 20 N == d) = false by simpa using hqd] at heq
     have HE : Hid (tintd false d = (0,false,false)) := by show _ = _; rw [HD.out,if_pos (.inr (.inl hqd))]
     generalize strOfNums (qdg 20 N) = DG at Q2 heq
     clear HD hqd
     go_enter Tryz.func28,Tryz.ntmps28
     go_wp2_with fail
     refine Calls.mono (Q1.out _) ?_
     rintro e w1 ⟨rfl,hb1⟩
     go_wp2_with fail
     refine Calls.mono (Q2.out _) ?_
     rintro e w2 ⟨rfl,rfl⟩
     go_wp2
     go_ret3
     exact ⟨by rw [HE.out]; rfl,hb1⟩

theorem rint_any (s : List Int) (w : World) (hz : Hid (∀ i,0 ≤ s.getD i 0 ∧ s.getD i 0 ≤ 255)) (hlen : (s.length : Int) ≤ 1000000) :
  Calls Tryz.prog 28 #[.string (strOfNums s)] w fun e w' => e = .returned (.tuple #[.int .u64 (tint s).1,.bool (tint s).2.1,.bool (tint s).2.2]) ∧ Below w.heap.size w w' := by
 unfold tint
 by_cases h : s.getD 0 0 = 45
 ·rw [if_pos h]
  exact rint_go s true (s.drop 1) w (.inl ⟨h,rfl,rfl⟩) hz hlen
 ·rw [if_neg h]
  exact rint_go s false s w (.inr ⟨h,rfl,rfl⟩) hz hlen

def scell (z : List Int) : Value := .string (strOfNums z)

def byts (z : List Int) : Prop := ∀ c ∈ z,0 ≤ c ∧ c ≤ 255

def Ss (w : World) (a : Option Addr) (len cap : Nat) (zs : List (List Int)) : Prop :=
 zs.length = len ∧ (len : Int) ≤ 9223372036854775807 ∧ len ≤ cap ∧ (a = none → cap = 0) ∧ (∀ z ∈ zs,byts z) ∧
  (0 < len → ∃ b off,a = some ⟨b,off,none⟩ ∧ b < w.heap.size ∧ ∀ i z,zs[i]? = some z → w.cell? ⟨b,off + i,none⟩ = some (scell z))

def So (w : World) (base : Nat) (v : Value) (zs : List (List Int)) : Prop := w.ownsRow base 9 1 v zs.length (zs.map scell) ∧ ∀ z ∈ zs,byts z

theorem So.nil (w : World) (base : Nat) : So w base (.slice none 0 0) [] := ⟨World.ownsRow_nil _ _ _ _,by simp⟩

theorem So.below {w w' : World} {base : Nat} {v : Value} {zs : List (List Int)} (h : So w base v zs) (hb : Below w.heap.size w w') : So w' base v zs := ⟨own_below h.1 hb,h.2⟩

theorem So.slice {w : World} {base : Nat} {v : Value} {zs : List (List Int)} (h : So w base v zs) : ∃ a c,v = .slice a zs.length c := own_slice h.1

theorem Ss.of_own {w : World} {base : Nat} {a : Option Addr} {len cap : Nat} {zs : List (List Int)} (h : So w base (.slice a len cap) zs) : Ss w a len cap zs := by
 obtain ⟨ho,hr⟩ := h
 rcases ho.2 with ⟨he,hn⟩ | ⟨g,c,cur,he,hg,hh,h1,h2,h3,h4⟩
 ·simp at he
  obtain ⟨rfl,rfl,rfl⟩ := he
  exact ⟨hn,by omega,Nat.le_refl _,fun _ => rfl,hr,fun h => absurd h (by omega)⟩
 ·simp at he
  obtain ⟨rfl,rfl,rfl⟩ := he
  refine ⟨rfl,by unfold maxLen at h2; omega,h1,fun h => by simp at h,hr,fun _ => ⟨g,0,rfl,(ho.lt g rfl).2,fun i z hi => ?_⟩⟩
  have hil : i < zs.length := (List.getElem?_eq_some_iff.1 hi).1
  have := ho.cellAt i (by omega)
  rw [Nat.zero_add,this]
  simp [hi]

theorem Tryz.infoStr : (Tryz.prog.info? 9).map (fun i => (i.zero,i.size,i.bytes)) = some (some (.string { data := #[] }),1,16) := by kernel_rfl

theorem wpList_append_s {w : World} {ops : Array Oper} {rest : List Oper} {o : Oper} {f : Act} {Q : Exit → Act → World → Prop} (hgd : o.guard = none) (s x : Operand)
  (ho : o.op = .call { callee := .builtin .append,args := #[s,x],argTypes := #[35,35] }) (base : Nat) (v : Value) (zs : List (List Int)) (z : List Int) (b cap : Nat)
  (hs : f.eval s = v) (hx : f.eval x = .slice (some ⟨b,0,none⟩) 1 cap) (hown : So w base v zs) (hz : byts z) (hc : w.cell? ⟨b,0,none⟩ = some (scell z)) (hn : zs.length + 1 ≤ 1000000) (hbase : base ≤ w.heap.size)
  (h : ∀ v' w',So w' base v' (zs ++ [z]) → w.grownBy w' v.ownBlock → wpList Tryz.prog ops Q rest (f.put o.dst v') w') : wpList Tryz.prog ops Q (o :: rest) f w := by
 refine wpList_plain hgd fun K hK => ?_
 obtain ⟨i0,hi,hz0,hz1,hz2⟩ := info_parts Tryz.infoStr
 obtain ⟨v',w',hrun,h1,h2,_⟩ := run_append_own (P := Tryz.prog) w base 35 o.type 9 i0 _ 1 16 Tryz.underlying35 hi hz0 hz1 hz2 rfl (by decide) v zs.length _ hown.1 ⟨b,0,none⟩ 1 cap [scell z] rfl
  (fun j u hj => by
   match j,hj with
   | 0,hj => simp at hj; subst hj; simpa [Addr.add] using hc)
  (fun u hu => by simp at hu; subst hu; rfl) (by unfold maxLen; omega) (by omega) hbase
 unfold Oper.wp
 simp [execOp,ho,resolve,invoke,builtin,hs,hx,hrun,Result.andThen]
 refine hK _ _ (h v' w' ⟨by simpa using h1,fun u hu => ?_⟩ h2)
 rcases List.mem_append.1 hu with hu | hu
 ·exact hown.2 u hu
 ·simp at hu; subst hu; exact hz

theorem So.grown {w w0 w' : World} {base : Nat} {v : Value} {zs : List (List Int)} (h : So w base v zs) (hB : Below base w0 w) (hb : base ≤ w.heap.size) (hg : w.grownBy w' v.ownBlock) : Below base w0 w' :=
 hB.grown hg hb (fun k hk => (h.1.lt k hk).1)

theorem str_cell (W : World) (s : ByteArray) : (W.alloc (.cells #[.string s] 9)).cell? ⟨W.heap.size,0,none⟩ = some (.string s) := by
 rw [World.cell?_alloc_new]; rfl

open Go.ChangeShapes Go.WideShapes Go.ChangeAt
theorem ss_open {H : Type} {enc : TypeId × Value → H} {W : World} {a : Option Addr} {len cap : Nat} {d : DataW H} {ps : List MemPlace}
  (h : DataW.Trod enc Tryz.prog W 0 (fun _ => true) true 35 (.slice a len cap) d ps) : ∃ zs,Ss W a len cap zs := by
 obtain ⟨fuel,hf⟩ := h
 have hf' : DataW.trod enc Tryz.prog W 0 (fun _ => true) true fuel 35 [.slice a len cap] = some (d,ps) := by simpa [Value.cells] using hf
 rcases open_strings Tryz.underlying35 Tryz.underlying9 (by kernel_rfl) hf' with ⟨hcs,_⟩ | ⟨x,l,c,ss,hcs,_,hl,hm,hz,_,hcell,hws⟩
 ·simp at hcs
  obtain ⟨rfl,rfl,rfl⟩ := hcs
  exact ⟨[],rfl,by omega,Nat.le_refl _,fun _ => rfl,by simp,fun h => absurd h (by omega)⟩
 ·simp at hcs
  obtain ⟨rfl,rfl,rfl⟩ := hcs
  simp only [if_true] at hz
  have hex : ∀ s : ByteArray,∃ z : List Int,s = strOfNums z ∧ byts z := fun s => by
   obtain ⟨z,h1,h2⟩ := str_nums s
   exact ⟨z,h1,mem_bd h2⟩
  refine ⟨(ss.take len).map (fun s => (hex s).choose),by simp; omega,by unfold maxLen at hm; omega,hl,fun h => by simp at h,?_,?_⟩
  ·intro z hz
   obtain ⟨s,_,rfl⟩ := List.mem_map.1 hz
   exact (hex s).choose_spec.2
  ·intro hp
   obtain ⟨b,off,spot⟩ := x
   have hc0 := hcell 0 (by omega)
   have hspot : spot = none := by simpa [Addr.add] using World.cell?_spot hc0
   subst hspot
   refine ⟨b,off,rfl,?_,?_⟩
   ·rcases Nat.lt_or_ge b W.heap.size with h | h
    ·exact h
    ·simp [World.cell?,Addr.add,Array.getElem?_eq_none h] at hc0
   ·intro i z hi
    rw [List.getElem?_map] at hi
    cases hs : (ss.take len)[i]? with
    | none => rw [hs] at hi; simp at hi
    | some s =>
     rw [hs] at hi
     simp at hi
     subst hi
     have hil : i < len := by
      have := (List.getElem?_eq_some_iff.1 hs).1
      simp at this
      omega
     have := hcell i (by omega)
     have hp : (⟨b,off,none⟩ : Addr).add i = ⟨b,off + i,none⟩ := by unfold Addr.add; split <;> simp_all
     rw [hp] at this
     rw [this]
     rw [List.getElem?_take,if_pos hil] at hs
     simp only [List.getD,hs,Option.getD_some,scell]
     rw [← (hex s).choose_spec.1]

def nwords : List (List Int) := [[],[100,111,117,98,108,101],[102,108,111,97,116],[105,110,116,54,52],[117,105,110,116,54,52],[105,110,116,51,50],[102,105,120,101,100,54,52],[102,105,120,101,100,51,50],[98,111,111,108],[115,116,114,105,110,103],[],[],[98,121,116,101,115],[117,105,110,116,51,50],[],[115,102,105,120,101,100,51,50],[115,102,105,120,101,100,54,52],[115,105,110,116,51,50],[115,105,110,116,54,52]]

def nkeys : List (List Int) := [[109,101,115,115,97,103,101],[101,110,117,109],[101,120,116,101,110,100],[101,120,116,101,110,115,105,111,110,115],[111,112,116,105,111,110],[111,110,101,111,102],[109,97,112],[114,101,115,101,114,118,101,100],[111,112,116,105,111,110,97,108],[114,101,113,117,105,114,101,100],[114,101,112,101,97,116,101,100],[114,112,99],[115,101,114,118,105,99,101],[105,109,112,111,114,116],[112,97,99,107,97,103,101],[115,121,110,116,97,120],[115,116,114,101,97,109],[114,101,116,117,114,110,115],[116,111],[109,97,120],[112,117,98,108,105,99]]

def nwf (s : List Int) : List (List Int) → Nat → Nat
 | [],_ => 0
 | z :: r,k => if z ≠ [] ∧ z = s then k else nwf s r (k + 1)

def nword (s : List Int) : Nat := nwf s nwords 0

def nkey (s : List Int) : Bool := decide (s ∈ nkeys) || decide (nword s ≠ 0)

theorem nwords_bd : ∀ z ∈ nwords,byts z := by unfold byts; decide

theorem nkeys_bd : ∀ z ∈ nkeys,byts z := by unfold byts; decide

theorem lit_cell (W : World) (C : Array Value) (zs : List (List Int)) (hC : C.toList = zs.map scell) (k : Nat) (z : List Int) (hz : zs[k]? = some z) : (W.alloc (.cells C 9)).cell? ⟨W.heap.size,k,none⟩ = some (.string (strOfNums z)) := by
 rw [World.cell?_alloc_new,← Array.getElem?_toList,hC,List.getElem?_map,hz]
 rfl

set_option maxRecDepth 10000 in
set_option maxHeartbeats 2000000 in
theorem rword_any (s : List Int) (w : World) (hs : Hid (byts s)) :
  Calls Tryz.prog 9 #[.string (strOfNums s)] w fun e w' => e = .returned (.int .i64 (nword s : Int)) ∧ Below w.heap.size w w' := by
 have HC : Hid (∀ k z,nwords[k]? = some z → (w.alloc (.cells #[.string { data := #[] },.string { data := #[100,111,117,98,108,101] },.string { data := #[102,108,111,97,116] },.string { data := #[105,110,116,54,52] },.string { data := #[117,105,110,116,54,52] },.string { data := #[105,110,116,51,50] },.string { data := #[102,105,120,101,100,54,52] },.string { data := #[102,105,120,101,100,51,50] },.string { data := #[98,111,111,108] },.string { data := #[115,116,114,105,110,103] },.string { data := #[] },.string { data := #[] },.string { data := #[98,121,116,101,115] },.string { data := #[117,105,110,116,51,50] },.string { data := #[] },.string { data := #[115,102,105,120,101,100,51,50] },.string { data := #[115,102,105,120,101,100,54,52] },.string { data := #[115,105,110,116,51,50] },.string { data := #[115,105,110,116,54,52] }] 9)).cell? ⟨w.heap.size,k,none⟩ = some (.string (strOfNums z))) := fun k z hz => lit_cell w _ nwords rfl k z hz
 have HBl : Hid (Below w.heap.size w (w.alloc (.cells #[.string { data := #[] },.string { data := #[100,111,117,98,108,101] },.string { data := #[102,108,111,97,116] },.string { data := #[105,110,116,54,52] },.string { data := #[117,105,110,116,54,52] },.string { data := #[105,110,116,51,50] },.string { data := #[102,105,120,101,100,54,52] },.string { data := #[102,105,120,101,100,51,50] },.string { data := #[98,111,111,108] },.string { data := #[115,116,114,105,110,103] },.string { data := #[] },.string { data := #[] },.string { data := #[98,121,116,101,115] },.string { data := #[117,105,110,116,51,50] },.string { data := #[] },.string { data := #[115,102,105,120,101,100,51,50] },.string { data := #[115,102,105,120,101,100,54,52] },.string { data := #[115,105,110,116,51,50] },.string { data := #[115,105,110,116,54,52] }] 9))) := (Below.refl _ _).alloc (Nat.le_refl _) _
 obtain ⟨R,hR⟩ : ∃ R,R = nword s := ⟨_,rfl⟩
 rw [← hR]
 have HR : Hid (R = nwf s (nwords.drop 0) 0) := hR
 clear hR
 go_enter Tryz.func9,Tryz.ntmps9
 go_wp2
 go_loopw [7] (fun v wr => ∃ k : Nat,v = .int .i64 (k : Int) ∧ k ≤ 19 ∧ Hid (R = nwf s (nwords.drop k) k) ∧ w.alloc (.cells #[.string { data := #[] },.string { data := #[100,111,117,98,108,101] },.string { data := #[102,108,111,97,116] },.string { data := #[105,110,116,54,52] },.string { data := #[117,105,110,116,54,52] },.string { data := #[105,110,116,51,50] },.string { data := #[102,105,120,101,100,54,52] },.string { data := #[102,105,120,101,100,51,50] },.string { data := #[98,111,111,108] },.string { data := #[115,116,114,105,110,103] },.string { data := #[] },.string { data := #[] },.string { data := #[98,121,116,101,115] },.string { data := #[117,105,110,116,51,50] },.string { data := #[] },.string { data := #[115,102,105,120,101,100,51,50] },.string { data := #[115,102,105,120,101,100,54,52] },.string { data := #[115,105,110,116,51,50] },.string { data := #[115,105,110,116,54,52] }] 9) = wr) (fun v _ => 19 - (intOf v).toNat)
 case atStart => exact ⟨0,rfl,by omega,HR,rfl⟩
 case round =>
  obtain ⟨k,rfl,hk,HJ,rfl⟩ := hrel
  by_cases hkl : k < 19
  ·obtain ⟨z,hz⟩ : ∃ z,nwords[k]? = some z := ⟨nwords[k]'hkl,List.getElem?_eq_getElem hkl⟩
   have hcell := HC.out k z hz
   have hzb := nwords_bd z (List.mem_of_getElem? hz)
   have heq := str_eq hzb hs.out
   have HJ' := HJ.out
   rw [show nwords.drop k = z :: nwords.drop (k + 1) by
    rw [List.drop_eq_getElem_cons hkl]
    congr 1
    rw [List.getElem?_eq_getElem hkl] at hz
    exact Option.some.inj hz,nwf] at HJ'
   by_cases hz0 : z = []
   ·rw [if_neg (fun h => h.1 hz0)] at HJ'
    have hne : ((strOfNums z).toList == []) = true := by rw [hz0,str_list]; rfl
    have HJ2 : Hid _ := HJ'
    generalize strOfNums z = Z at hcell hne heq
    generalize strOfNums s = X at heq ⊢
    clear HJ HJ' hz hzb hz0 heq
    go_wp2
    go_roundw
    case rel => first | exact ⟨k + 1,by go_num,by omega,HJ2,by first | rfl | trivial⟩ | ((repeat apply Exists.intro); exact ⟨⟨k + 1,by go_num,by omega,HJ2,by first | rfl | trivial⟩,rfl⟩)
    case measure => simp [intOf]; omega
   ·have hne : ((strOfNums z).toList == []) = false := by
     cases z with
     | nil => exact absurd rfl hz0
     | cons c r => exact str_ne c r
    by_cases hzs : z = s
    ·rw [if_pos ⟨hz0,hzs⟩] at HJ'
     have e' : (z == s) = true := by simpa using hzs
     rw [e'] at heq
     have HJ2 : Hid _ := HJ'
     generalize strOfNums z = Z at hcell hne heq
     generalize strOfNums s = X at heq ⊢
     clear HJ HJ' hz hzb hz0 hzs e'
     go_wp2
     go_ret
     exact ⟨by rw [HJ2.out]; rfl,HBl.out⟩
    ·rw [if_neg (fun h => hzs h.2)] at HJ'
     have e' : (z == s) = false := by simpa using hzs
     rw [e'] at heq
     have HJ2 : Hid _ := HJ'
     generalize strOfNums z = Z at hcell hne heq
     generalize strOfNums s = X at heq ⊢
     clear HJ HJ' hz hzb hz0 hzs e'
     go_wp2
     go_roundw
     case rel => first | exact ⟨k + 1,by go_num,by omega,HJ2,by first | rfl | trivial⟩ | ((repeat apply Exists.intro); exact ⟨⟨k + 1,by go_num,by omega,HJ2,by first | rfl | trivial⟩,rfl⟩)
     case measure => simp [intOf]; omega
  ·obtain rfl : k = 19 := by omega
   have E : Hid (R = 0) := by show _ = _; rw [HJ.out]; rfl
   clear HJ
   go_wp2
   go_ret
   exact ⟨by rw [E.out]; rfl,HBl.out⟩

set_option maxRecDepth 10000 in
set_option maxHeartbeats 2000000 in
theorem rkey_any (s : List Int) (w : World) (hs : Hid (byts s)) :
  Calls Tryz.prog 153 #[.string (strOfNums s)] w fun e w' => e = .returned (.bool (nkey s)) ∧ Below w.heap.size w w' := by
 have HC : Hid (∀ k z,nkeys[k]? = some z → (w.alloc (.cells #[.string { data := #[109,101,115,115,97,103,101] },.string { data := #[101,110,117,109] },.string { data := #[101,120,116,101,110,100] },.string { data := #[101,120,116,101,110,115,105,111,110,115] },.string { data := #[111,112,116,105,111,110] },.string { data := #[111,110,101,111,102] },.string { data := #[109,97,112] },.string { data := #[114,101,115,101,114,118,101,100] },.string { data := #[111,112,116,105,111,110,97,108] },.string { data := #[114,101,113,117,105,114,101,100] },.string { data := #[114,101,112,101,97,116,101,100] },.string { data := #[114,112,99] },.string { data := #[115,101,114,118,105,99,101] },.string { data := #[105,109,112,111,114,116] },.string { data := #[112,97,99,107,97,103,101] },.string { data := #[115,121,110,116,97,120] },.string { data := #[115,116,114,101,97,109] },.string { data := #[114,101,116,117,114,110,115] },.string { data := #[116,111] },.string { data := #[109,97,120] },.string { data := #[112,117,98,108,105,99] }] 9)).cell? ⟨w.heap.size,k,none⟩ = some (.string (strOfNums z))) := fun k z hz => lit_cell w _ nkeys rfl k z hz
 have HBl : Hid (Below w.heap.size w (w.alloc (.cells #[.string { data := #[109,101,115,115,97,103,101] },.string { data := #[101,110,117,109] },.string { data := #[101,120,116,101,110,100] },.string { data := #[101,120,116,101,110,115,105,111,110,115] },.string { data := #[111,112,116,105,111,110] },.string { data := #[111,110,101,111,102] },.string { data := #[109,97,112] },.string { data := #[114,101,115,101,114,118,101,100] },.string { data := #[111,112,116,105,111,110,97,108] },.string { data := #[114,101,113,117,105,114,101,100] },.string { data := #[114,101,112,101,97,116,101,100] },.string { data := #[114,112,99] },.string { data := #[115,101,114,118,105,99,101] },.string { data := #[105,109,112,111,114,116] },.string { data := #[112,97,99,107,97,103,101] },.string { data := #[115,121,110,116,97,120] },.string { data := #[115,116,114,101,97,109] },.string { data := #[114,101,116,117,114,110,115] },.string { data := #[116,111] },.string { data := #[109,97,120] },.string { data := #[112,117,98,108,105,99] }] 9))) := (Below.refl _ _).alloc (Nat.le_refl _) _
 have q := fun W => rword_any s W hs
 go_enter Tryz.func153,Tryz.ntmps153
 have QW : Hid _ := q
 clear q
 go_wp2
 go_loopw [7] (fun v wr => ∃ k : Nat,v = .int .i64 (k : Int) ∧ k ≤ 21 ∧ Hid (∀ j,j < k → nkeys[j]? ≠ some s) ∧ w.alloc (.cells #[.string { data := #[109,101,115,115,97,103,101] },.string { data := #[101,110,117,109] },.string { data := #[101,120,116,101,110,100] },.string { data := #[101,120,116,101,110,115,105,111,110,115] },.string { data := #[111,112,116,105,111,110] },.string { data := #[111,110,101,111,102] },.string { data := #[109,97,112] },.string { data := #[114,101,115,101,114,118,101,100] },.string { data := #[111,112,116,105,111,110,97,108] },.string { data := #[114,101,113,117,105,114,101,100] },.string { data := #[114,101,112,101,97,116,101,100] },.string { data := #[114,112,99] },.string { data := #[115,101,114,118,105,99,101] },.string { data := #[105,109,112,111,114,116] },.string { data := #[112,97,99,107,97,103,101] },.string { data := #[115,121,110,116,97,120] },.string { data := #[115,116,114,101,97,109] },.string { data := #[114,101,116,117,114,110,115] },.string { data := #[116,111] },.string { data := #[109,97,120] },.string { data := #[112,117,98,108,105,99] }] 9) = wr) (fun v _ => 21 - (intOf v).toNat)
 case atStart => exact ⟨0,rfl,by omega,fun j hj => absurd hj (by omega),rfl⟩
 case round =>
  obtain ⟨k,rfl,hk,HJ,rfl⟩ := hrel
  by_cases hkl : k < 21
  ·obtain ⟨z,hz⟩ : ∃ z,nkeys[k]? = some z := ⟨nkeys[k]'hkl,List.getElem?_eq_getElem hkl⟩
   have hcell := HC.out k z hz
   have hzb := nkeys_bd z (List.mem_of_getElem? hz)
   have heq := str_eq hzb hs.out
   by_cases hzs : z = s
   ·have e' : (z == s) = true := by simpa using hzs
    rw [e'] at heq
    have E : Hid (nkey s = true) := by show _ = _; unfold nkey; rw [decide_eq_true (by rw [← hzs]; exact List.mem_of_getElem? hz)]; rfl
    generalize strOfNums z = Z at hcell heq
    generalize strOfNums s = X at heq QW ⊢
    clear HJ hz hzb hzs e'
    go_wp2
    go_ret
    exact ⟨by rw [E.out]; rfl,HBl.out⟩
   ·have e' : (z == s) = false := by simpa using hzs
    rw [e'] at heq
    have HJ2 : Hid (∀ j,j < k + 1 → nkeys[j]? ≠ some s) := fun j hj => by
     by_cases q : j = k
     ·rw [q,hz]; simpa using hzs
     ·exact HJ.out j (by omega)
    generalize strOfNums z = Z at hcell heq
    generalize strOfNums s = X at heq QW ⊢
    clear HJ hz hzb hzs e'
    go_wp2
    go_roundw
    case rel => first | exact ⟨k + 1,by go_num,by omega,HJ2,by first | rfl | trivial⟩ | ((repeat apply Exists.intro); exact ⟨⟨k + 1,by go_num,by omega,HJ2,by first | rfl | trivial⟩,rfl⟩)
    case measure => simp [intOf]; omega
  ·obtain rfl : k = 21 := by omega
   have hnm : ¬ s ∈ nkeys := fun hm => by
    obtain ⟨j,hj⟩ := List.getElem?_of_mem hm
    exact HJ.out j (List.getElem?_eq_some_iff.1 hj).1 hj
   have E : Hid (nkey s = decide (nword s ≠ 0)) := by show _ = _; unfold nkey; rw [decide_eq_false hnm]; rfl
   generalize nword s = n at E QW
   clear HJ hnm
   go_wp2_with fail
   refine Calls.mono (QW.out _) ?_
   rintro e w1 ⟨rfl,hb1⟩
   go_wp2
   go_ret
   refine ⟨?_,HBl.out.trans (hb1.mono HBl.out.size)⟩
   rw [E.out]
   by_cases h : n = 0
   ·subst h; rfl
   ·rw [decide_eq_true h]
    exact ret_bool (by simp; omega)

inductive Tn where
 | mk (kind : Int) (text : List Int) (n m a pos : Int) (doc : List Int) (ad : Option Addr) (cap : Nat) (kids : List Tn) : Tn

def Tn.kind : Tn → Int | .mk k _ _ _ _ _ _ _ _ _ => k
def Tn.text : Tn → List Int | .mk _ t _ _ _ _ _ _ _ _ => t
def Tn.kids : Tn → List Tn | .mk _ _ _ _ _ _ _ _ _ k => k
def Tn.cells : Tn → List Value
 | .mk kind text n m a pos doc ad cap kids => [.int .i64 kind,.string (strOfNums text),.int .i64 n,.int .i64 m,.int .i64 a,.int .i64 pos,.string (strOfNums doc),.slice ad kids.length cap]
def Tn.val (t : Tn) : Value := .agg t.cells.toArray

def i64b (x : Int) : Prop := -9223372036854775808 ≤ x ∧ x ≤ 9223372036854775807

inductive TnOk (w : World) : Tn → Prop
 | mk {kind : Int} {text : List Int} {n m a pos : Int} {doc : List Int} {ad : Option Addr} {cap : Nat} {kids : List Tn} (hkind : i64b kind) (htext : byts text) (htl : (text.length : Int) ≤ 9223372036854775807) (hn : i64b n) (hm : i64b m) (ha : i64b a) (hpos : i64b pos)
   (hdoc : byts doc) (hdl : (doc.length : Int) ≤ 9223372036854775807) (hkl : (kids.length : Int) ≤ 9223372036854775807) (hcap : kids.length ≤ cap) (hnone : ad = none → cap = 0)
   (hmem : 0 < kids.length → ∃ b off,ad = some ⟨b,off,none⟩ ∧ b < w.heap.size ∧ ∀ (i : Nat) (t : Tn),kids[i]? = some t → ∀ (j : Nat) (u : Value),t.cells[j]? = some u → w.cell? ⟨b,off + i * 8 + j,none⟩ = some u)
   (hkids : ∀ (i : Nat) (t : Tn),kids[i]? = some t → TnOk w t) : TnOk w (.mk kind text n m a pos doc ad cap kids)

theorem TnOk.under {w w' : World} {t : Tn} (h : TnOk w t) (hb : Below w.heap.size w w') : TnOk w' t := by
 induction h with
 | mk hkind htext htl hn hm ha hpos hdoc hdl hkl hcap hnone hmem hkids ih =>
  refine .mk hkind htext htl hn hm ha hpos hdoc hdl hkl hcap hnone (fun hp => ?_) ih
  obtain ⟨b,off,h1,h2,h3⟩ := hmem hp
  exact ⟨b,off,h1,Nat.lt_of_lt_of_le h2 hb.size,fun i t hi j u hj => (hb.cell h2).trans (h3 i t hi j u hj)⟩

open Go.ChangeShapes Go.WideShapes Go.ChangeAt

theorem add_add' (b off i j : Nat) : ((⟨b,off,none⟩ : Addr).add i).add j = ⟨b,off + i + j,none⟩ := by
 have h1 : (⟨b,off,none⟩ : Addr).add i = ⟨b,off + i,none⟩ := by unfold Addr.add; split <;> simp_all
 rw [h1]
 unfold Addr.add
 split <;> simp_all

theorem eight {α : Type} {l : List α} (h : l.length = 8) : ∃ c0 c1 c2 c3 c4 c5 c6 c7,l = [c0,c1,c2,c3,c4,c5,c6,c7] := by
 match l,h with
 | [c0,c1,c2,c3,c4,c5,c6,c7],_ => exact ⟨c0,c1,c2,c3,c4,c5,c6,c7,rfl⟩

theorem node_open {H : Type} {enc : TypeId × Value → H} {W : World} : ∀ (fuel : Nat) (cs : List Value) (x : DataW H × List MemPlace),
  DataW.trod enc Tryz.prog W 0 (fun _ => true) true fuel 28 cs = some x → ∃ t,TnOk W t ∧ cs = t.cells := by
 intro fuel
 induction fuel using Nat.strongRecOn with
 | _ fuel ih =>
  intro cs x hf
  obtain ⟨xs,n,hfu,_,hl,hlen,hfl⟩ := DataW.trod_struct Tryz.underlying28 hf
  have k8 : Tryz.prog.cellsOf 28 = 8 := by kernel_rfl
  rw [k8] at hl
  obtain ⟨c0,c1,c2,c3,c4,c5,c6,c7,rfl⟩ := eight hl
  have k1 : Tryz.prog.cellsOf 3 = 1 := by kernel_rfl
  have k2 : Tryz.prog.cellsOf 2 = 1 := by kernel_rfl
  have k3 : Tryz.prog.cellsOf 9 = 1 := by kernel_rfl
  have k4 : Tryz.prog.cellsOf 26 = 1 := by kernel_rfl
  obtain ⟨y0,y1,y2,y3,y4,y5,y6,y7,rfl⟩ := eight (l := xs) hlen
  have t0 : DataW.trod enc Tryz.prog W 0 (fun _ => true) true n 3 [c0] = some y0 := by have h := hfl 0 _ rfl; simpa [k1] using h
  have t1 : DataW.trod enc Tryz.prog W 0 (fun _ => true) true n 9 [c1] = some y1 := by have h := hfl 1 _ rfl; simpa [k3] using h
  have t2 : DataW.trod enc Tryz.prog W 0 (fun _ => true) true n 2 [c2] = some y2 := by have h := hfl 2 _ rfl; simpa [k2] using h
  have t3 : DataW.trod enc Tryz.prog W 0 (fun _ => true) true n 2 [c3] = some y3 := by have h := hfl 3 _ rfl; simpa [k2] using h
  have t4 : DataW.trod enc Tryz.prog W 0 (fun _ => true) true n 3 [c4] = some y4 := by have h := hfl 4 _ rfl; simpa [k1] using h
  have t5 : DataW.trod enc Tryz.prog W 0 (fun _ => true) true n 3 [c5] = some y5 := by have h := hfl 5 _ rfl; simpa [k1] using h
  have t6 : DataW.trod enc Tryz.prog W 0 (fun _ => true) true n 9 [c6] = some y6 := by have h := hfl 6 _ rfl; simpa [k3] using h
  have t7 : DataW.trod enc Tryz.prog W 0 (fun _ => true) true n 26 [c7] = some y7 := by have h := hfl 7 _ rfl; simpa [k4] using h
  obtain ⟨kind,e0,_,w0⟩ := DataW.trod_int Tryz.underlying3 t0
  obtain ⟨s1,e1,_,w1⟩ := DataW.trod_string Tryz.underlying9 t1
  obtain ⟨nn,e2,_,w2⟩ := DataW.trod_int Tryz.underlying2 t2
  obtain ⟨mm,e3,_,w3⟩ := DataW.trod_int Tryz.underlying2 t3
  obtain ⟨aa,e4,_,w4⟩ := DataW.trod_int Tryz.underlying3 t4
  obtain ⟨pp,e5,_,w5⟩ := DataW.trod_int Tryz.underlying3 t5
  obtain ⟨s6,e6,_,w6⟩ := DataW.trod_string Tryz.underlying9 t6
  simp at e0 e1 e2 e3 e4 e5 e6
  subst e0 e1 e2 e3 e4 e5 e6
  obtain ⟨z1,hz1,hb1⟩ := str_nums s1
  obtain ⟨z6,hz6,hb6⟩ := str_nums s6
  subst hz1 hz6
  have l1 : (z1.length : Int) ≤ 9223372036854775807 := by rw [strOfNums_size] at w1; unfold maxLen at w1; omega
  have l6 : (z6.length : Int) ≤ 9223372036854775807 := by rw [strOfNums_size] at w6; unfold maxLen at w6; omega
  rcases DataW.trod_slice Tryz.underlying26 t7 with ⟨hcs,_⟩ | ⟨y,l,c,elems,rest,n',hn',hcs,_,_,hl',hm,hel,hx,_,_⟩
  ·simp at hcs
   subst hcs
   exact ⟨.mk kind z1 nn mm aa pp z6 none 0 [],.mk (bounds_i64 w0) (mem_bd hb1) l1 (bounds_i64 w2) (bounds_i64 w3) (bounds_i64 w4) (bounds_i64 w5) (mem_bd hb6) l6 (by simp) (by simp) (fun _ => rfl) (fun h => absurd h (by simp)) (fun i t h => by simp at h),rfl⟩
  ·simp at hcs
   subst hcs
   have hpick : ∀ i,∃ t : Tn,i < l → TnOk W t ∧ W.cells? 0 (y.add (i * 8)) 8 = some t.cells := by
    intro i
    by_cases hi : i < l
    ·have h1 := hx i hi
     rw [k8,List.getElem?_eq_getElem (by omega),Option.bind_eq_some_iff] at h1
     obtain ⟨cs',h2,h3⟩ := h1
     obtain ⟨t,ht,hc⟩ := ih n' (by omega) cs' _ h3
     exact ⟨t,fun _ => ⟨ht,by rw [h2,hc]⟩⟩
    ·exact ⟨.mk 0 [] 0 0 0 0 [] none 0 [],fun h => absurd h hi⟩
   obtain ⟨f,hfn⟩ := Classical.axiomOfChoice hpick
   have hl8 : ∀ t : Tn,t.cells.length = 8 := fun t => by cases t; rfl
   have hkid : ∀ (i : Nat) (t : Tn),((List.range l).map f)[i]? = some t → i < l ∧ t = f i := by
    intro i t hi
    have hil : i < l := by
     have := (List.getElem?_eq_some_iff.1 hi).1
     simpa using this
    simp [hil] at hi
    exact ⟨hil,hi.symm⟩
   refine ⟨.mk kind z1 nn mm aa pp z6 (some y) c ((List.range l).map f),.mk (bounds_i64 w0) (mem_bd hb1) l1 (bounds_i64 w2) (bounds_i64 w3) (bounds_i64 w4) (bounds_i64 w5) (mem_bd hb6) l6 (by simp; unfold maxLen at hm; omega) (by simpa using hl') (fun h => by simp at h) (fun hp => ?_) (fun i t hi => ?_),by simp [Tn.cells]⟩
   ·obtain ⟨b,off,spot⟩ := y
    have h0 := (hfn 0 (by simpa using hp)).2
    obtain ⟨_,hlen0,hc0⟩ := World.cells?_some h0
    have hsp : W.cell? (((⟨b,off,spot⟩ : Addr).add (0 * 8)).add 0) = some ((f 0).cells[0]'(by rw [hl8]; omega)) := (hc0 0 (by omega)).trans (List.getElem?_eq_getElem _)
    have hspot : spot = none := by simpa [Addr.add] using World.cell?_spot hsp
    subst hspot
    refine ⟨b,off,rfl,?_,?_⟩
    ·rcases Nat.lt_or_ge b W.heap.size with h | h
     ·exact h
     ·simp [World.cell?,Addr.add,Array.getElem?_eq_none h] at hsp
    ·intro i t hi j u hj
     obtain ⟨hil,rfl⟩ := hkid i t hi
     obtain ⟨_,hlen1,hc1⟩ := World.cells?_some (hfn i hil).2
     have hjl : j < (f i).cells.length := (List.getElem?_eq_some_iff.1 hj).1
     have := hc1 j (by rw [hl8] at hjl; exact hjl)
     rw [add_add'] at this
     rw [this]
     exact hj
   ·obtain ⟨hil,rfl⟩ := hkid i t hi
    exact (hfn i hil).1

set_option maxRecDepth 10000 in
theorem node_arg {H : Type} {enc : TypeId × Value → H} {W : World} {r : Reach} {b0 : Nat} {v : Value} {d : DataW H} {p : List MemPlace} (hv : Value.okWide Tryz.prog W r b0 28 v)
  (h : DataW.Trod enc Tryz.prog W 0 (fun _ => true) true 28 v d p) : ∃ t : Tn,v = t.val ∧ TnOk W t := by
 obtain ⟨cs,rfl,hsz⟩ := okWide_struct Tryz.underlying28 hv
 obtain ⟨fuel,hf⟩ := h
 obtain ⟨t,ht,hc⟩ := node_open fuel cs.toList (d,p) (by simpa [Value.cells] using hf)
 refine ⟨t,?_,ht⟩
 unfold Tn.val
 rw [← hc]

end Go.Proofs.YtlekfcehmlepkaaGreatDoor

namespace Go.Proofs.YtlekfcehmlepkaaGreatDoor
set_option linter.unusedVariables false
set_option linter.unusedSimpArgs false

mutual
def tsz : Tn → Int → Int → Int
 | .mk _ text _ _ _ _ doc _ _ kids,all,deep => if 80 < deep ∨ 2000 < (text.length : Int) ∨ 2000 < (doc.length : Int) then 1000 else tszs kids (all + 1) (deep + 1)
def tszs : List Tn → Int → Int → Int
 | [],all,_ => all
 | k :: r,all,deep => if 400 < all then all else tszs r (tsz k all deep) deep
end

mutual
def tcnt : Tn → Int → Int
 | .mk _ _ _ _ _ _ _ _ _ kids,all => if 20000 < all + 1 then 30000 else tcnts kids (all + 1)
def tcnts : List Tn → Int → Int
 | [],all => all
 | k :: r,all => if 20000 < tcnt k all then 30000 else tcnts r (tcnt k all)
end

mutual
def tdp : Tn → Int → Int
 | .mk _ _ _ _ _ _ _ _ _ kids,x => if 64 < x then x else tdps kids x x
def tdps : List Tn → Int → Int → Int
 | [],_,d => d
 | k :: r,x,d => if 64 < max d (tdp k (x + 1)) then max d (tdp k (x + 1)) else tdps r x (max d (tdp k (x + 1)))
end

mutual
def tsame : Tn → Tn → Bool
 | .mk k1 t1 n1 m1 a1 _ d1 _ _ kids1,.mk k2 t2 n2 m2 a2 _ d2 _ _ kids2 => decide (k1 = k2 ∧ t1 = t2 ∧ n1 = n2 ∧ m1 = m2 ∧ a1 = a2 ∧ d1 = d2 ∧ kids1.length = kids2.length) && tsames kids1 kids2
def tsames : List Tn → List Tn → Bool
 | [],_ => true
 | _ :: _,[] => true
 | x :: r,y :: q => tsame x y && tsames r q
end

def tcount (t : Tn) : Int := min (tcnt t 0) 30000

def tdeep (t : Tn) : Int := if 64 < tdp t 1 then 100 else tdp t 1

def tfew (t : Tn) : Bool := decide (tsz t 0 0 ≤ 400)

def tSame (a b : Tn) : Bool := decide (tdeep a ≤ 64) && (decide (tdeep b ≤ 64) && tsame a b)

mutual
theorem tcnt_bd : ∀ (t : Tn) (x : Int),0 ≤ x → x ≤ 20000 → x + 1 ≤ tcnt t x ∧ tcnt t x ≤ 30000
 | .mk _ _ _ _ _ _ _ _ _ kids,x,h0,h1 => by
  rw [tcnt]
  by_cases h : 20000 < x + 1
  ·rw [if_pos h]; omega
  ·rw [if_neg h]
   have := tcnts_bd kids (x + 1) (by omega) (by omega)
   omega
theorem tcnts_bd : ∀ (l : List Tn) (x : Int),0 ≤ x → x ≤ 20000 → x ≤ tcnts l x ∧ tcnts l x ≤ 30000
 | [],x,h0,h1 => by rw [tcnts]; omega
 | k :: r,x,h0,h1 => by
  have h2 := tcnt_bd k x h0 h1
  rw [tcnts]
  by_cases h : 20000 < tcnt k x
  ·rw [if_pos h]; omega
  ·rw [if_neg h]
   have := tcnts_bd r (tcnt k x) (by omega) (by omega)
   omega
end

mutual
theorem tdp_bd : ∀ (t : Tn) (x : Int),x ≤ 65 → x ≤ tdp t x ∧ tdp t x ≤ 65
 | .mk _ _ _ _ _ _ _ _ _ kids,x,h1 => by
  rw [tdp]
  by_cases h : 64 < x
  ·rw [if_pos h]; omega
  ·rw [if_neg h]
   exact tdps_bd kids x x (by omega) (by omega) (by omega)
theorem tdps_bd : ∀ (l : List Tn) (x d : Int),x ≤ 64 → x ≤ d → d ≤ 65 → x ≤ tdps l x d ∧ tdps l x d ≤ 65
 | [],x,d,h0,h1,h2 => by rw [tdps]; omega
 | k :: r,x,d,h0,h1,h2 => by
  have h3 := tdp_bd k (x + 1) (by omega)
  rw [tdps]
  by_cases h : 64 < max d (tdp k (x + 1))
  ·rw [if_pos h]; omega
  ·rw [if_neg h]
   exact tdps_bd r x _ h0 (by omega) (by omega)
end

mutual
theorem tsz_bd : ∀ (t : Tn) (x d : Int),0 ≤ x → x ≤ 400 → 0 ≤ d → d ≤ 81 → 0 ≤ tsz t x d ∧ tsz t x d ≤ 1000
 | .mk _ text _ _ _ _ doc _ _ kids,x,d,h0,h1,h2,h3 => by
  rw [tsz]
  by_cases h : 80 < d ∨ 2000 < (text.length : Int) ∨ 2000 < (doc.length : Int)
  ·rw [if_pos h]; omega
  ·rw [if_neg h]
   exact tszs_bd kids (x + 1) (d + 1) (by omega) (by omega) (by omega) (by omega)
theorem tszs_bd : ∀ (l : List Tn) (x d : Int),0 ≤ x → x ≤ 1000 → 0 ≤ d → d ≤ 81 → 0 ≤ tszs l x d ∧ tszs l x d ≤ 1000
 | [],x,d,h0,h1,_,_ => by rw [tszs]; omega
 | k :: r,x,d,h0,h1,h2,h3 => by
  rw [tszs]
  by_cases h : 400 < x
  ·rw [if_pos h]; omega
  ·rw [if_neg h]
   have := tsz_bd k x d h0 (by omega) h2 h3
   exact tszs_bd r _ d (by omega) (by omega) h2 h3
end

end Go.Proofs.YtlekfcehmlepkaaGreatDoor

namespace Go.Proofs.YtlekfcehmlepkaaGreatDoor
set_option linter.unusedVariables false
set_option linter.unusedSimpArgs false

def tref (s : List Int) : Bool := if s.getD 0 0 = 46 then nfull (s.drop 1) else nfull s

def ttype (s : List Int) : Bool × Bool :=
 if s.getD 0 0 = 46 then (tref s,true) else if nword s ≠ 0 then (true,false) else (nfull s && !nkey ((nparts s).getD 0 []),true)

def tdocd (k : Int) : Bool := decide (k = 5 ∨ (6 ≤ k ∧ k ≤ 11 ∧ k ≠ 7) ∨ k = 16 ∨ k = 17)

end Go.Proofs.YtlekfcehmlepkaaGreatDoor
