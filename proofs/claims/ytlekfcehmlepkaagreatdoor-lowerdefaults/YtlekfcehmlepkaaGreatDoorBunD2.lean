/- Put together by a program out of these texts of mine: QRef, QEsc. -/
import Derived.Test.YtlekfcehmlepkaaGreatDoorBunD1

namespace Go.Proofs.YtlekfcehmlepkaaGreatDoor
open Go.RowKit

theorem str_at (zs : List Int) (hz : ∀ i,0 ≤ zs.getD i 0 ∧ zs.getD i 0 ≤ 255) (k : Nat) (h : k < (strOfNums zs).size) : (((strOfNums zs)[k]'h).toNat : Int) = zs.getD k 0 := by
 have hk : k < zs.length := by rw [strOfNums_size] at h; exact h
 have := hz k
 show ((((zs.map fun n => UInt8.ofNat n.toNat).toArray)[k]'(by simpa using hk)).toNat : Int) = _
 simp only [List.getElem_toArray,List.getElem_map]
 simp only [List.getD,List.getElem?_eq_getElem hk,Option.getD_some] at this ⊢
 simp
 omega

theorem qrn_stop (base : Int) (f : Nat) (zs : List Int) (k : Nat) (n : Int) (h : zs.length ≤ k ∨ f = 0 ∨ base ≤ dgt (zs.getD k 0)) : qrn base f (zs.drop k) n = (n,0) := by
 cases f with
 | zero => rfl
 | succ f =>
  rcases Nat.lt_or_ge k zs.length with hk | hk
  ·rw [List.drop_eq_getElem_cons hk,qrn,if_neg]
   have : zs[k] = zs.getD k 0 := by simp [List.getD,List.getElem?_eq_getElem hk]
   rw [this]
   omega
  ·rw [List.drop_eq_nil_of_le hk]; rfl

theorem qrn_step (base : Int) (f : Nat) (zs : List Int) (k : Nat) (n : Int) (hk : k < zs.length) (h : dgt (zs.getD k 0) < base) :
  qrn base (f + 1) (zs.drop k) n = ((qrn base f (zs.drop (k + 1)) (n * base + dgt (zs.getD k 0))).1,(qrn base f (zs.drop (k + 1)) (n * base + dgt (zs.getD k 0))).2 + 1) := by
 have e : zs[k] = zs.getD k 0 := by simp [List.getD,List.getElem?_eq_getElem hk]
 rw [List.drop_eq_getElem_cons hk,qrn,e,if_pos h]

theorem dgt_1 {c : Int} (h : 48 ≤ c ∧ c ≤ 57) : dgt c = c - 48 := by unfold dgt; rw [if_pos h]

theorem dgt_2 {c : Int} (h : 97 ≤ c ∧ c ≤ 102) : dgt c = c - 87 := by unfold dgt; rw [if_neg (by omega),if_pos h]

theorem dgt_3 {c : Int} (h : 65 ≤ c ∧ c ≤ 70) : dgt c = c - 55 := by unfold dgt; rw [if_neg (by omega),if_neg (by omega),if_pos h]

theorem dgt_4 {c : Int} (h1 : ¬ (48 ≤ c ∧ c ≤ 57)) (h2 : ¬ (97 ≤ c ∧ c ≤ 102)) (h3 : ¬ (65 ≤ c ∧ c ≤ 70)) : dgt c = 99 := by unfold dgt; rw [if_neg h1,if_neg h2,if_neg h3]

set_option maxHeartbeats 400000 in
theorem rdigit_any (c : Int) (w : World) (h0 : 0 ≤ c) (h1 : c ≤ 255) :
  Calls Tryz.prog 57 #[.int .u8 c] w fun e w' => e = .returned (.int .i64 (dgt c)) ∧ w = w' := by
 by_cases k1 : 48 ≤ c
 ·by_cases k2 : c ≤ 57
  ·have E : Hid (dgt c = c - 48) := dgt_1 ⟨k1,k2⟩
   go_enter Tryz.func57,Tryz.ntmps57
   go_wp2
   go_ret
   exact ⟨by rw [E.out]; rfl,rfl⟩
  ·by_cases k3 : 97 ≤ c
   ·have k3' : 65 ≤ c := by omega
    by_cases k4 : c ≤ 102
    ·have E : Hid (dgt c = c - 97 + 10) := by show _ = _; rw [dgt_2 ⟨k3,k4⟩]; omega
     go_enter Tryz.func57,Tryz.ntmps57
     go_wp2
     go_ret
     exact ⟨by rw [E.out]; rfl,rfl⟩
    ·have E : Hid (dgt c = 99) := dgt_4 (by omega) (by omega) (by omega)
     have k5 : ¬ c ≤ 70 := by omega
     go_enter Tryz.func57,Tryz.ntmps57
     go_wp2
     go_ret
     exact ⟨by rw [E.out]; rfl,rfl⟩
   ·by_cases k4 : 65 ≤ c
    ·by_cases k5 : c ≤ 70
     ·have E : Hid (dgt c = c - 65 + 10) := by show _ = _; rw [dgt_3 ⟨k4,k5⟩]; omega
      go_enter Tryz.func57,Tryz.ntmps57
      go_wp2
      go_ret
      exact ⟨by rw [E.out]; rfl,rfl⟩
     ·have E : Hid (dgt c = 99) := dgt_4 (by omega) (by omega) (by omega)
      go_enter Tryz.func57,Tryz.ntmps57
      go_wp2
      go_ret
      exact ⟨by rw [E.out]; rfl,rfl⟩
    ·have E : Hid (dgt c = 99) := dgt_4 (by omega) (by omega) (by omega)
     go_enter Tryz.func57,Tryz.ntmps57
     go_wp2
     go_ret
     exact ⟨by rw [E.out]; rfl,rfl⟩
 ·have k3 : ¬ 97 ≤ c := by omega
  have k4 : ¬ 65 ≤ c := by omega
  have E : Hid (dgt c = 99) := dgt_4 (by omega) (by omega) (by omega)
  go_enter Tryz.func57,Tryz.ntmps57
  go_wp2
  go_ret
  exact ⟨by rw [E.out]; rfl,rfl⟩

set_option maxHeartbeats 1000000 in
theorem rrun_any (zs : List Int) (base : Int) (most : Nat) (w : World) (hz : Hid (∀ i,0 ≤ zs.getD i 0 ∧ zs.getD i 0 ≤ 255)) (b0 : 0 ≤ base) (b1 : base ≤ 16) (hm : most ≤ 8) (hlen : (zs.length : Int) ≤ 9223372036854775807) :
  Calls Tryz.prog 106 #[.string (strOfNums zs),.int .i64 base,.int .i64 (most : Int)] w fun e w' => e = .returned (.tuple #[.int .i64 (qrn base most zs 0).1,.int .i64 ((qrn base most zs 0).2 : Int)]) ∧ w = w' := by
 have hsz := strOfNums_size zs
 go_enter Tryz.func106,Tryz.ntmps106
 go_wp2
 go_loopw [8,9] (fun v i wr => ∃ (n : Int) (k : Nat),v = .int .i64 n ∧ i = .int .i64 (k : Int) ∧ 0 ≤ n ∧ k ≤ most ∧ k ≤ zs.length ∧ Hid (n < ((16 ^ k : Nat) : Int)) ∧ Hid (qrn base most zs 0 = ((qrn base (most - k) (zs.drop k) n).1,(qrn base (most - k) (zs.drop k) n).2 + k)) ∧ wr = w) (fun _ i _ => most - (intOf i).toNat)
 case atStart => exact ⟨0,0,rfl,rfl,by omega,by omega,by omega,(by show (0 : Int) < _; decide),(by show _ = _; simp),rfl⟩
 case round =>
  obtain ⟨n,k,rfl,rfl,n0,hkm,hkl,HN,HQ,rfl⟩ := hrel
  have hend : (zs.length ≤ k ∨ most - k = 0 ∨ base ≤ dgt (zs.getD k 0)) → Hid (qrn base most zs 0 = (n,k)) := by
   intro h
   have := HQ.out
   rw [qrn_stop base (most - k) zs k n h] at this
   rw [this]
   show _ = _
   simp
  by_cases h1 : k < zs.length
  ·by_cases h2 : k < most
   ·obtain ⟨c,hc⟩ : ∃ c,c = zs.getD k 0 := ⟨_,rfl⟩
    have hcb := hz.out k
    have hat := str_at zs hz.out k (by rw [hsz]; exact h1)
    rw [← hc] at hcb hat hend
    obtain ⟨c0,c255⟩ := hcb
    have HC : Hid (c = zs.getD k 0) := hc
    clear hc
    have q := fun W => rdigit_any c W c0 c255
    have hd := dgt_bd c
    by_cases h3 : dgt c < base
    ·have hstep : Hid (qrn base most zs 0 = ((qrn base (most - (k + 1)) (zs.drop (k + 1)) (n * base + dgt c)).1,(qrn base (most - (k + 1)) (zs.drop (k + 1)) (n * base + dgt c)).2 + (k + 1))) := by
      show _ = _
      have := HQ.out
      obtain ⟨f,hf⟩ : ∃ f,most - k = f + 1 := ⟨most - k - 1,by omega⟩
      rw [hf,qrn_step base f zs k n h1 (by rw [← HC.out]; exact h3),← HC.out] at this
      rw [this,show most - (k + 1) = f by omega]
      simp only [Prod.mk.injEq,true_and]
      omega
     have e0 : 0 ≤ n * base := Int.mul_nonneg n0 b0
     have hn' : Hid (n * base + dgt c < ((16 ^ (k + 1) : Nat) : Int)) := by
      show _ < _
      have := HN.out
      have e : n * base ≤ n * 16 := Int.mul_le_mul_of_nonneg_left b1 n0
      rw [Nat.pow_succ]
      omega
     have hn8 : n * base + dgt c < 4294967296 := by
      have := hn'.out
      have h8 : 16 ^ (k + 1) ≤ 16 ^ 8 := Nat.pow_le_pow_right (by omega) (by omega)
      omega
     clear hend
     generalize dgt c = d at q hd h3 hstep hn' hn8
     obtain ⟨m,hm'⟩ : ∃ m,m = n * base := ⟨_,rfl⟩
     rw [← hm'] at hstep hn' hn8 e0
     have Q : Hid _ := q
     clear q
     have hmm : n * base = m := hm'.symm
     clear hm'
     go_wp2_with fail
     refine Calls.mono (Q.out _) ?_
     rintro e w1 ⟨rfl,rfl⟩
     go_wp2_with fail
     refine Calls.mono (Q.out _) ?_
     rintro e w1 ⟨rfl,rfl⟩
     go_wp2
     go_roundw
     case rel => exact ⟨m + d,k + 1,rfl,by go_num,by omega,by omega,by omega,hn',hstep,by first | rfl | trivial⟩
     case measure => simp [intOf]; omega
    ·have HE := hend (Or.inr (Or.inr (by omega)))
     clear hend
     generalize dgt c = d at q hd h3
     have Q : Hid _ := q
     clear q
     go_wp2_with fail
     refine Calls.mono (Q.out _) ?_
     rintro e w1 ⟨rfl,rfl⟩
     go_wp2
     go_ret2
     exact ⟨by rw [HE.out]; rfl,rfl⟩
   ·have HE := hend (Or.inr (Or.inl (by omega)))
    clear hend
    go_wp2
    go_ret2
    exact ⟨by rw [HE.out]; rfl,rfl⟩
  ·have HE := hend (Or.inl (by omega))
   clear hend
   go_wp2
   go_ret2
   exact ⟨by rw [HE.out]; rfl,rfl⟩

end Go.Proofs.YtlekfcehmlepkaaGreatDoor

namespace Go.Proofs.YtlekfcehmlepkaaGreatDoor
open Go.RowKit
set_option linter.unusedVariables false

theorem str_list (zs : List Int) : (strOfNums zs).toList = zs.map fun n => UInt8.ofNat n.toNat := by rw [ByteArray.toList_eq]; rfl

theorem str_ne (c : Int) (r : List Int) : ((strOfNums (c :: r)).toList == []) = false := by rw [str_list]; rfl

theorem str_cut (zs : List Int) (a b : Nat) : (strOfNums zs).extract a b = strOfNums ((zs.drop a).take (b - a)) := by
 unfold strOfNums
 rw [ByteArray.extract_mk,List.map_take,List.map_drop]

theorem str_tail (c : Int) (r : List Int) : (strOfNums (c :: r)).extract 1 (r.length + 1) = strOfNums r := by
 rw [str_cut]
 simp

theorem own_lit (w : World) (x : Int) : (w.alloc (.cells #[.int .u8 x] 5)).ownsRow w.heap.size 5 1 (.slice (some ⟨w.heap.size,0,none⟩) 1 1) 1 [.int .u8 x] :=
 lit_row w 5 #[.int .u8 x] 1 rfl (by omega)

def EscEnd (w : World) (p : List Int × Nat) (e : Ending) (w' : World) : Prop :=
 ∃ v,e = .returned (.tuple #[v,.int .i64 (p.2 : Int)]) ∧ w'.ownsRow w.heap.size 5 1 v p.1.length (p.1.map (Value.int .u8)) ∧ Below w.heap.size w w'

set_option maxHeartbeats 1000000 in
theorem resc_97 (r : List Int) (w : World) (hz : Hid (∀ i,0 ≤ ((97 : Int) :: r).getD i 0 ∧ ((97 : Int) :: r).getD i 0 ≤ 255)) (hlen : ((r.length : Int) + 1) ≤ 9223372036854775807) :
  Calls Tryz.prog 58 #[.string (strOfNums (97 :: r))] w fun e w' => EscEnd w ([7],1) e w' := by
 have hsz := strOfNums_size (97 :: r)
 have hat := str_at (97 :: r) hz.out 0 (by rw [hsz]; simp)
 simp only [List.length_cons] at hsz
 rw [show ((97 : Int) :: r).getD 0 0 = 97 from rfl] at hat
 have hne := str_ne 97 r
 generalize strOfNums (97 :: r) = S at hsz hat hne
 go_enter Tryz.func58,Tryz.ntmps58
 go_wp2
 go_ret2
 exact ⟨_,rfl,own_lit w 7,(Below.refl _ _).alloc (Nat.le_refl _) _⟩

set_option maxHeartbeats 1000000 in
theorem resc_98 (r : List Int) (w : World) (hz : Hid (∀ i,0 ≤ ((98 : Int) :: r).getD i 0 ∧ ((98 : Int) :: r).getD i 0 ≤ 255)) (hlen : ((r.length : Int) + 1) ≤ 9223372036854775807) :
  Calls Tryz.prog 58 #[.string (strOfNums (98 :: r))] w fun e w' => EscEnd w ([8],1) e w' := by
 have hsz := strOfNums_size (98 :: r)
 have hat := str_at (98 :: r) hz.out 0 (by rw [hsz]; simp)
 simp only [List.length_cons] at hsz
 rw [show ((98 : Int) :: r).getD 0 0 = 98 from rfl] at hat
 have hne := str_ne 98 r
 generalize strOfNums (98 :: r) = S at hsz hat hne
 go_enter Tryz.func58,Tryz.ntmps58
 go_wp2
 go_ret2
 exact ⟨_,rfl,own_lit w 8,(Below.refl _ _).alloc (Nat.le_refl _) _⟩

set_option maxHeartbeats 1000000 in
theorem resc_102 (r : List Int) (w : World) (hz : Hid (∀ i,0 ≤ ((102 : Int) :: r).getD i 0 ∧ ((102 : Int) :: r).getD i 0 ≤ 255)) (hlen : ((r.length : Int) + 1) ≤ 9223372036854775807) :
  Calls Tryz.prog 58 #[.string (strOfNums (102 :: r))] w fun e w' => EscEnd w ([12],1) e w' := by
 have hsz := strOfNums_size (102 :: r)
 have hat := str_at (102 :: r) hz.out 0 (by rw [hsz]; simp)
 simp only [List.length_cons] at hsz
 rw [show ((102 : Int) :: r).getD 0 0 = 102 from rfl] at hat
 have hne := str_ne 102 r
 generalize strOfNums (102 :: r) = S at hsz hat hne
 go_enter Tryz.func58,Tryz.ntmps58
 go_wp2
 go_ret2
 exact ⟨_,rfl,own_lit w 12,(Below.refl _ _).alloc (Nat.le_refl _) _⟩

set_option maxHeartbeats 1000000 in
theorem resc_110 (r : List Int) (w : World) (hz : Hid (∀ i,0 ≤ ((110 : Int) :: r).getD i 0 ∧ ((110 : Int) :: r).getD i 0 ≤ 255)) (hlen : ((r.length : Int) + 1) ≤ 9223372036854775807) :
  Calls Tryz.prog 58 #[.string (strOfNums (110 :: r))] w fun e w' => EscEnd w ([10],1) e w' := by
 have hsz := strOfNums_size (110 :: r)
 have hat := str_at (110 :: r) hz.out 0 (by rw [hsz]; simp)
 simp only [List.length_cons] at hsz
 rw [show ((110 : Int) :: r).getD 0 0 = 110 from rfl] at hat
 have hne := str_ne 110 r
 generalize strOfNums (110 :: r) = S at hsz hat hne
 go_enter Tryz.func58,Tryz.ntmps58
 go_wp2
 go_ret2
 exact ⟨_,rfl,own_lit w 10,(Below.refl _ _).alloc (Nat.le_refl _) _⟩

set_option maxHeartbeats 1000000 in
theorem resc_114 (r : List Int) (w : World) (hz : Hid (∀ i,0 ≤ ((114 : Int) :: r).getD i 0 ∧ ((114 : Int) :: r).getD i 0 ≤ 255)) (hlen : ((r.length : Int) + 1) ≤ 9223372036854775807) :
  Calls Tryz.prog 58 #[.string (strOfNums (114 :: r))] w fun e w' => EscEnd w ([13],1) e w' := by
 have hsz := strOfNums_size (114 :: r)
 have hat := str_at (114 :: r) hz.out 0 (by rw [hsz]; simp)
 simp only [List.length_cons] at hsz
 rw [show ((114 : Int) :: r).getD 0 0 = 114 from rfl] at hat
 have hne := str_ne 114 r
 generalize strOfNums (114 :: r) = S at hsz hat hne
 go_enter Tryz.func58,Tryz.ntmps58
 go_wp2
 go_ret2
 exact ⟨_,rfl,own_lit w 13,(Below.refl _ _).alloc (Nat.le_refl _) _⟩

set_option maxHeartbeats 1000000 in
theorem resc_116 (r : List Int) (w : World) (hz : Hid (∀ i,0 ≤ ((116 : Int) :: r).getD i 0 ∧ ((116 : Int) :: r).getD i 0 ≤ 255)) (hlen : ((r.length : Int) + 1) ≤ 9223372036854775807) :
  Calls Tryz.prog 58 #[.string (strOfNums (116 :: r))] w fun e w' => EscEnd w ([9],1) e w' := by
 have hsz := strOfNums_size (116 :: r)
 have hat := str_at (116 :: r) hz.out 0 (by rw [hsz]; simp)
 simp only [List.length_cons] at hsz
 rw [show ((116 : Int) :: r).getD 0 0 = 116 from rfl] at hat
 have hne := str_ne 116 r
 generalize strOfNums (116 :: r) = S at hsz hat hne
 go_enter Tryz.func58,Tryz.ntmps58
 go_wp2
 go_ret2
 exact ⟨_,rfl,own_lit w 9,(Below.refl _ _).alloc (Nat.le_refl _) _⟩

set_option maxHeartbeats 1000000 in
theorem resc_118 (r : List Int) (w : World) (hz : Hid (∀ i,0 ≤ ((118 : Int) :: r).getD i 0 ∧ ((118 : Int) :: r).getD i 0 ≤ 255)) (hlen : ((r.length : Int) + 1) ≤ 9223372036854775807) :
  Calls Tryz.prog 58 #[.string (strOfNums (118 :: r))] w fun e w' => EscEnd w ([11],1) e w' := by
 have hsz := strOfNums_size (118 :: r)
 have hat := str_at (118 :: r) hz.out 0 (by rw [hsz]; simp)
 simp only [List.length_cons] at hsz
 rw [show ((118 : Int) :: r).getD 0 0 = 118 from rfl] at hat
 have hne := str_ne 118 r
 generalize strOfNums (118 :: r) = S at hsz hat hne
 go_enter Tryz.func58,Tryz.ntmps58
 go_wp2
 go_ret2
 exact ⟨_,rfl,own_lit w 11,(Below.refl _ _).alloc (Nat.le_refl _) _⟩

set_option maxHeartbeats 1000000 in
theorem resc_92 (r : List Int) (w : World) (hz : Hid (∀ i,0 ≤ ((92 : Int) :: r).getD i 0 ∧ ((92 : Int) :: r).getD i 0 ≤ 255)) (hlen : ((r.length : Int) + 1) ≤ 9223372036854775807) :
  Calls Tryz.prog 58 #[.string (strOfNums (92 :: r))] w fun e w' => EscEnd w ([92],1) e w' := by
 have hsz := strOfNums_size (92 :: r)
 have hat := str_at (92 :: r) hz.out 0 (by rw [hsz]; simp)
 simp only [List.length_cons] at hsz
 rw [show ((92 : Int) :: r).getD 0 0 = 92 from rfl] at hat
 have hne := str_ne 92 r
 generalize strOfNums (92 :: r) = S at hsz hat hne
 go_enter Tryz.func58,Tryz.ntmps58
 go_wp2
 go_ret2
 exact ⟨_,rfl,own_lit w 92,(Below.refl _ _).alloc (Nat.le_refl _) _⟩

set_option maxHeartbeats 1000000 in
theorem resc_39 (r : List Int) (w : World) (hz : Hid (∀ i,0 ≤ ((39 : Int) :: r).getD i 0 ∧ ((39 : Int) :: r).getD i 0 ≤ 255)) (hlen : ((r.length : Int) + 1) ≤ 9223372036854775807) :
  Calls Tryz.prog 58 #[.string (strOfNums (39 :: r))] w fun e w' => EscEnd w ([39],1) e w' := by
 have hsz := strOfNums_size (39 :: r)
 have hat := str_at (39 :: r) hz.out 0 (by rw [hsz]; simp)
 simp only [List.length_cons] at hsz
 rw [show ((39 : Int) :: r).getD 0 0 = 39 from rfl] at hat
 have hne := str_ne 39 r
 generalize strOfNums (39 :: r) = S at hsz hat hne
 go_enter Tryz.func58,Tryz.ntmps58
 go_wp2
 go_ret2
 exact ⟨_,rfl,own_lit w 39,(Below.refl _ _).alloc (Nat.le_refl _) _⟩

set_option maxHeartbeats 1000000 in
theorem resc_34 (r : List Int) (w : World) (hz : Hid (∀ i,0 ≤ ((34 : Int) :: r).getD i 0 ∧ ((34 : Int) :: r).getD i 0 ≤ 255)) (hlen : ((r.length : Int) + 1) ≤ 9223372036854775807) :
  Calls Tryz.prog 58 #[.string (strOfNums (34 :: r))] w fun e w' => EscEnd w ([34],1) e w' := by
 have hsz := strOfNums_size (34 :: r)
 have hat := str_at (34 :: r) hz.out 0 (by rw [hsz]; simp)
 simp only [List.length_cons] at hsz
 rw [show ((34 : Int) :: r).getD 0 0 = 34 from rfl] at hat
 have hne := str_ne 34 r
 generalize strOfNums (34 :: r) = S at hsz hat hne
 go_enter Tryz.func58,Tryz.ntmps58
 go_wp2
 go_ret2
 exact ⟨_,rfl,own_lit w 34,(Below.refl _ _).alloc (Nat.le_refl _) _⟩

set_option maxHeartbeats 1000000 in
theorem resc_63 (r : List Int) (w : World) (hz : Hid (∀ i,0 ≤ ((63 : Int) :: r).getD i 0 ∧ ((63 : Int) :: r).getD i 0 ≤ 255)) (hlen : ((r.length : Int) + 1) ≤ 9223372036854775807) :
  Calls Tryz.prog 58 #[.string (strOfNums (63 :: r))] w fun e w' => EscEnd w ([63],1) e w' := by
 have hsz := strOfNums_size (63 :: r)
 have hat := str_at (63 :: r) hz.out 0 (by rw [hsz]; simp)
 simp only [List.length_cons] at hsz
 rw [show ((63 : Int) :: r).getD 0 0 = 63 from rfl] at hat
 have hne := str_ne 63 r
 generalize strOfNums (63 :: r) = S at hsz hat hne
 go_enter Tryz.func58,Tryz.ntmps58
 go_wp2
 go_ret2
 exact ⟨_,rfl,own_lit w 63,(Below.refl _ _).alloc (Nat.le_refl _) _⟩

set_option maxHeartbeats 1000000 in
theorem resc_120 (r : List Int) (w : World) (hz : Hid (∀ i,0 ≤ ((120 : Int) :: r).getD i 0 ∧ ((120 : Int) :: r).getD i 0 ≤ 255)) (hlen : ((r.length : Int) + 1) ≤ 9223372036854775807) :
  Calls Tryz.prog 58 #[.string (strOfNums (120 :: r))] w fun e w' => EscEnd w (if 0 < (qrn 16 2 r 0).2 then ([(qrn 16 2 r 0).1],1 + (qrn 16 2 r 0).2) else ([],0)) e w' := by
 have hsz := strOfNums_size (120 :: r)
 have hat := str_at (120 :: r) hz.out 0 (by rw [hsz]; simp)
 simp only [List.length_cons] at hsz
 rw [show ((120 : Int) :: r).getD 0 0 = 120 from rfl] at hat
 have hne := str_ne 120 r
 have hex := str_tail 120 r
 have hzr : Hid (∀ i,0 ≤ r.getD i 0 ∧ r.getD i 0 ≤ 255) := fun i => hz.out (i + 1)
 have q := fun W => rrun_any r 16 2 W hzr (by omega) (by omega) (by omega) (by omega)
 have hb := qrn_bd 16 (by omega) (by omega) 2 r 0 0 (by omega) (by omega)
 have hle := qrn_le 16 2 r 0
 simp only [show 16 ^ (0 + 2) = 256 from rfl] at hb
 generalize (qrn 16 2 r 0).1 = n at q hb ⊢
 generalize (qrn 16 2 r 0).2 = k at q hle ⊢
 obtain ⟨hb0,hb1⟩ := hb
 rw [show (((2 : Nat)) : Int) = 2 from rfl] at q
 have hb1' : n < 256 := hb1
 clear hb1
 have Q : Hid _ := q
 clear q
 by_cases hk : 0 < k
 ·rw [if_pos hk]
  have hk' : (0 : Int) < (k : Int) := by omega
  generalize strOfNums (120 :: r) = S at hsz hat hne hex
  go_enter Tryz.func58,Tryz.ntmps58
  go_wp2_with fail
  refine Calls.mono (Q.out _) ?_
  rintro e w1 ⟨rfl,rfl⟩
  go_wp2
  go_ret2
  exact ⟨_,by rw [show (((1 + k : Nat)) : Int) = 1 + (k : Int) by omega]; rfl,own_lit w n,(Below.refl _ _).alloc (Nat.le_refl _) _⟩
 ·rw [if_neg hk]
  obtain rfl : k = 0 := by omega
  generalize strOfNums (120 :: r) = S at hsz hat hne hex
  go_enter Tryz.func58,Tryz.ntmps58
  go_wp2_with fail
  refine Calls.mono (Q.out _) ?_
  rintro e w1 ⟨rfl,rfl⟩
  rw [show (((0 : Nat)) : Int) = 0 from rfl]
  go_wp2
  go_ret2
  exact ⟨_,rfl,World.ownsRow_nil _ _ _ _,Below.refl _ _⟩

set_option maxHeartbeats 1000000 in
theorem resc_88 (r : List Int) (w : World) (hz : Hid (∀ i,0 ≤ ((88 : Int) :: r).getD i 0 ∧ ((88 : Int) :: r).getD i 0 ≤ 255)) (hlen : ((r.length : Int) + 1) ≤ 9223372036854775807) :
  Calls Tryz.prog 58 #[.string (strOfNums (88 :: r))] w fun e w' => EscEnd w (if 0 < (qrn 16 2 r 0).2 then ([(qrn 16 2 r 0).1],1 + (qrn 16 2 r 0).2) else ([],0)) e w' := by
 have hsz := strOfNums_size (88 :: r)
 have hat := str_at (88 :: r) hz.out 0 (by rw [hsz]; simp)
 simp only [List.length_cons] at hsz
 rw [show ((88 : Int) :: r).getD 0 0 = 88 from rfl] at hat
 have hne := str_ne 88 r
 have hex := str_tail 88 r
 have hzr : Hid (∀ i,0 ≤ r.getD i 0 ∧ r.getD i 0 ≤ 255) := fun i => hz.out (i + 1)
 have q := fun W => rrun_any r 16 2 W hzr (by omega) (by omega) (by omega) (by omega)
 have hb := qrn_bd 16 (by omega) (by omega) 2 r 0 0 (by omega) (by omega)
 have hle := qrn_le 16 2 r 0
 simp only [show 16 ^ (0 + 2) = 256 from rfl] at hb
 generalize (qrn 16 2 r 0).1 = n at q hb ⊢
 generalize (qrn 16 2 r 0).2 = k at q hle ⊢
 obtain ⟨hb0,hb1⟩ := hb
 rw [show (((2 : Nat)) : Int) = 2 from rfl] at q
 have hb1' : n < 256 := hb1
 clear hb1
 have Q : Hid _ := q
 clear q
 by_cases hk : 0 < k
 ·rw [if_pos hk]
  have hk' : (0 : Int) < (k : Int) := by omega
  generalize strOfNums (88 :: r) = S at hsz hat hne hex
  go_enter Tryz.func58,Tryz.ntmps58
  go_wp2_with fail
  refine Calls.mono (Q.out _) ?_
  rintro e w1 ⟨rfl,rfl⟩
  go_wp2
  go_ret2
  exact ⟨_,by rw [show (((1 + k : Nat)) : Int) = 1 + (k : Int) by omega]; rfl,own_lit w n,(Below.refl _ _).alloc (Nat.le_refl _) _⟩
 ·rw [if_neg hk]
  obtain rfl : k = 0 := by omega
  generalize strOfNums (88 :: r) = S at hsz hat hne hex
  go_enter Tryz.func58,Tryz.ntmps58
  go_wp2_with fail
  refine Calls.mono (Q.out _) ?_
  rintro e w1 ⟨rfl,rfl⟩
  rw [show (((0 : Nat)) : Int) = 0 from rfl]
  go_wp2
  go_ret2
  exact ⟨_,rfl,World.ownsRow_nil _ _ _ _,Below.refl _ _⟩

set_option maxHeartbeats 1000000 in
theorem resc_117 (r : List Int) (w : World) (hz : Hid (∀ i,0 ≤ ((117 : Int) :: r).getD i 0 ∧ ((117 : Int) :: r).getD i 0 ≤ 255)) (hlen : ((r.length : Int) + 1) ≤ 9223372036854775807) :
  Calls Tryz.prog 58 #[.string (strOfNums (117 :: r))] w fun e w' => EscEnd w (if (qrn 16 4 r 0).2 = 4 ∧ isCh (qrn 16 4 r 0).1 = true then (uput (qrn 16 4 r 0).1,5) else ([],0)) e w' := by
 have hsz := strOfNums_size (117 :: r)
 have hat := str_at (117 :: r) hz.out 0 (by rw [hsz]; simp)
 simp only [List.length_cons] at hsz
 rw [show ((117 : Int) :: r).getD 0 0 = 117 from rfl] at hat
 have hne := str_ne 117 r
 have hex := str_tail 117 r
 have hzr : Hid (∀ i,0 ≤ r.getD i 0 ∧ r.getD i 0 ≤ 255) := fun i => hz.out (i + 1)
 have q := fun W => rrun_any r 16 4 W hzr (by omega) (by omega) (by omega) (by omega)
 have hb := qrn_bd 16 (by omega) (by omega) 4 r 0 0 (by omega) (by omega)
 have hle := qrn_le 16 4 r 0
 simp only [show 16 ^ (0 + 4) = 65536 from rfl] at hb
 generalize (qrn 16 4 r 0).1 = n at q hb ⊢
 generalize (qrn 16 4 r 0).2 = k at q hle ⊢
 obtain ⟨hb0,hb1⟩ := hb
 rw [show (((4 : Nat)) : Int) = 4 from rfl] at q
 have hb1' : n < 65536 := hb1
 clear hb1
 have Q : Hid _ := q
 clear q
 by_cases hk : k = 4
 ·subst hk
  have qc := fun W => rchar_any n W
  cases hch : isCh n with
  | true =>
   rw [if_pos ⟨rfl,rfl⟩]
   rw [hch] at qc
   have QC : Hid _ := qc
   clear qc
   have hn := (isCh_iff n).1 hch
   have hn1 : n ≤ 1114111 := hn.2.1
   clear hn hch
   generalize strOfNums (117 :: r) = S at hsz hat hne hex
   go_enter Tryz.func58,Tryz.ntmps58
   go_wp2_with fail
   refine Calls.mono (Q.out _) ?_
   rintro e w1 ⟨rfl,rfl⟩
   rw [show (((4 : Nat)) : Int) = 4 from rfl]
   go_wp2_with fail
   refine Calls.mono (QC.out _) ?_
   rintro e w1 ⟨rfl,rfl⟩
   go_wp2_with fail
   refine (rputr_any n _ (by omega) (by omega)).mono ?_
   rintro e w2 ⟨v,rfl,hown,hb⟩
   go_wp2
   go_ret2
   exact ⟨_,rfl,hown,hb⟩
  | false =>
   rw [if_neg (by simp)]
   rw [hch] at qc
   have QC : Hid _ := qc
   clear qc hch
   generalize strOfNums (117 :: r) = S at hsz hat hne hex
   go_enter Tryz.func58,Tryz.ntmps58
   go_wp2_with fail
   refine Calls.mono (Q.out _) ?_
   rintro e w1 ⟨rfl,rfl⟩
   rw [show (((4 : Nat)) : Int) = 4 from rfl]
   go_wp2_with fail
   refine Calls.mono (QC.out _) ?_
   rintro e w1 ⟨rfl,rfl⟩
   go_wp2
   go_ret2
   exact ⟨_,rfl,World.ownsRow_nil _ _ _ _,Below.refl _ _⟩
 ·rw [if_neg (fun h => hk h.1)]
  have hk' : ((k : Int) == 4) = false := by simp; omega
  generalize strOfNums (117 :: r) = S at hsz hat hne hex
  go_enter Tryz.func58,Tryz.ntmps58
  go_wp2_with fail
  refine Calls.mono (Q.out _) ?_
  rintro e w1 ⟨rfl,rfl⟩
  go_wp2
  go_ret2
  exact ⟨_,rfl,World.ownsRow_nil _ _ _ _,Below.refl _ _⟩

set_option maxHeartbeats 1000000 in
theorem resc_85 (r : List Int) (w : World) (hz : Hid (∀ i,0 ≤ ((85 : Int) :: r).getD i 0 ∧ ((85 : Int) :: r).getD i 0 ≤ 255)) (hlen : ((r.length : Int) + 1) ≤ 9223372036854775807) :
  Calls Tryz.prog 58 #[.string (strOfNums (85 :: r))] w fun e w' => EscEnd w (if (qrn 16 8 r 0).2 = 8 ∧ isCh (qrn 16 8 r 0).1 = true then (uput (qrn 16 8 r 0).1,9) else ([],0)) e w' := by
 have hsz := strOfNums_size (85 :: r)
 have hat := str_at (85 :: r) hz.out 0 (by rw [hsz]; simp)
 simp only [List.length_cons] at hsz
 rw [show ((85 : Int) :: r).getD 0 0 = 85 from rfl] at hat
 have hne := str_ne 85 r
 have hex := str_tail 85 r
 have hzr : Hid (∀ i,0 ≤ r.getD i 0 ∧ r.getD i 0 ≤ 255) := fun i => hz.out (i + 1)
 have q := fun W => rrun_any r 16 8 W hzr (by omega) (by omega) (by omega) (by omega)
 have hb := qrn_bd 16 (by omega) (by omega) 8 r 0 0 (by omega) (by omega)
 have hle := qrn_le 16 8 r 0
 simp only [show 16 ^ (0 + 8) = 4294967296 from rfl] at hb
 generalize (qrn 16 8 r 0).1 = n at q hb ⊢
 generalize (qrn 16 8 r 0).2 = k at q hle ⊢
 obtain ⟨hb0,hb1⟩ := hb
 rw [show (((8 : Nat)) : Int) = 8 from rfl] at q
 have hb1' : n < 4294967296 := hb1
 clear hb1
 have Q : Hid _ := q
 clear q
 by_cases hk : k = 8
 ·subst hk
  have qc := fun W => rchar_any n W
  cases hch : isCh n with
  | true =>
   rw [if_pos ⟨rfl,rfl⟩]
   rw [hch] at qc
   have QC : Hid _ := qc
   clear qc
   have hn := (isCh_iff n).1 hch
   have hn1 : n ≤ 1114111 := hn.2.1
   clear hn hch
   generalize strOfNums (85 :: r) = S at hsz hat hne hex
   go_enter Tryz.func58,Tryz.ntmps58
   go_wp2_with fail
   refine Calls.mono (Q.out _) ?_
   rintro e w1 ⟨rfl,rfl⟩
   rw [show (((8 : Nat)) : Int) = 8 from rfl]
   go_wp2_with fail
   refine Calls.mono (QC.out _) ?_
   rintro e w1 ⟨rfl,rfl⟩
   go_wp2_with fail
   refine (rputr_any n _ (by omega) (by omega)).mono ?_
   rintro e w2 ⟨v,rfl,hown,hb⟩
   go_wp2
   go_ret2
   exact ⟨_,rfl,hown,hb⟩
  | false =>
   rw [if_neg (by simp)]
   rw [hch] at qc
   have QC : Hid _ := qc
   clear qc hch
   generalize strOfNums (85 :: r) = S at hsz hat hne hex
   go_enter Tryz.func58,Tryz.ntmps58
   go_wp2_with fail
   refine Calls.mono (Q.out _) ?_
   rintro e w1 ⟨rfl,rfl⟩
   rw [show (((8 : Nat)) : Int) = 8 from rfl]
   go_wp2_with fail
   refine Calls.mono (QC.out _) ?_
   rintro e w1 ⟨rfl,rfl⟩
   go_wp2
   go_ret2
   exact ⟨_,rfl,World.ownsRow_nil _ _ _ _,Below.refl _ _⟩
 ·rw [if_neg (fun h => hk h.1)]
  have hk' : ((k : Int) == 8) = false := by simp; omega
  generalize strOfNums (85 :: r) = S at hsz hat hne hex
  go_enter Tryz.func58,Tryz.ntmps58
  go_wp2_with fail
  refine Calls.mono (Q.out _) ?_
  rintro e w1 ⟨rfl,rfl⟩
  go_wp2
  go_ret2
  exact ⟨_,rfl,World.ownsRow_nil _ _ _ _,Below.refl _ _⟩

set_option maxHeartbeats 1000000 in
theorem resc_oct (c : Int) (r : List Int) (w : World) (hz : Hid (∀ i,0 ≤ (c :: r).getD i 0 ∧ (c :: r).getD i 0 ≤ 255)) (hlen : ((r.length : Int) + 1) ≤ 9223372036854775807) (h97 : (c == 97) = false) (h98 : (c == 98) = false) (h102 : (c == 102) = false) (h110 : (c == 110) = false) (h114 : (c == 114) = false) (h116 : (c == 116) = false) (h118 : (c == 118) = false) (h92 : (c == 92) = false) (h39 : (c == 39) = false) (h34 : (c == 34) = false) (h63 : (c == 63) = false) (h120 : (c == 120) = false) (h88 : (c == 88) = false) (h117 : (c == 117) = false) (h85 : (c == 85) = false) :
  Calls Tryz.prog 58 #[.string (strOfNums (c :: r))] w fun e w' => EscEnd w (if 0 < (qrn 8 3 (c :: r) 0).2 ∧ (qrn 8 3 (c :: r) 0).1 < 256 then ([(qrn 8 3 (c :: r) 0).1],(qrn 8 3 (c :: r) 0).2) else ([],0)) e w' := by
 have hsz := strOfNums_size (c :: r)
 have hat := str_at (c :: r) hz.out 0 (by rw [hsz]; simp)
 simp only [List.length_cons] at hsz
 rw [show (c :: r).getD 0 0 = c from rfl] at hat
 have hne := str_ne c r
 obtain ⟨c0,c255⟩ : 0 ≤ c ∧ c ≤ 255 := hz.out 0
 have q := fun W => rrun_any (c :: r) 8 3 W hz (by omega) (by omega) (by omega) (by simp only [List.length_cons]; omega)
 have hb := qrn_bd 8 (by omega) (by omega) 3 (c :: r) 0 0 (by omega) (by omega)
 have hle := qrn_le 8 3 (c :: r) 0
 simp only [show 16 ^ (0 + 3) = 4096 from rfl] at hb
 generalize (qrn 8 3 (c :: r) 0).1 = n at q hb ⊢
 generalize (qrn 8 3 (c :: r) 0).2 = k at q hle ⊢
 obtain ⟨hb0,hb1⟩ := hb
 rw [show (((3 : Nat)) : Int) = 3 from rfl] at q
 have hb1' : n < 4096 := hb1
 clear hb1
 generalize strOfNums (c :: r) = S at hsz hat hne q ⊢
 have Q : Hid _ := q
 clear q
 by_cases hk : 0 < k
 ·have hk' : (0 : Int) < (k : Int) := by omega
  by_cases hn : n < 256
  ·rw [if_pos ⟨hk,hn⟩]
   go_enter Tryz.func58,Tryz.ntmps58
   go_wp2_with fail
   refine Calls.mono (Q.out _) ?_
   rintro e w1 ⟨rfl,rfl⟩
   go_wp2
   go_ret2
   exact ⟨_,rfl,own_lit w n,(Below.refl _ _).alloc (Nat.le_refl _) _⟩
  ·rw [if_neg (fun h => hn h.2)]
   have hn' : decide (n < 256) = false := by simp; omega
   have hn2 : 256 ≤ n := by omega
   clear hn
   go_enter Tryz.func58,Tryz.ntmps58
   go_wp2_with fail
   refine Calls.mono (Q.out _) ?_
   rintro e w1 ⟨rfl,rfl⟩
   go_wp2
   go_ret2
   exact ⟨_,rfl,World.ownsRow_nil _ _ _ _,Below.refl _ _⟩
 ·rw [if_neg (fun h => hk h.1)]
  obtain rfl : k = 0 := by omega
  go_enter Tryz.func58,Tryz.ntmps58
  go_wp2_with fail
  refine Calls.mono (Q.out _) ?_
  rintro e w1 ⟨rfl,rfl⟩
  rw [show (((0 : Nat)) : Int) = 0 from rfl]
  go_wp2
  go_ret2
  exact ⟨_,rfl,World.ownsRow_nil _ _ _ _,Below.refl _ _⟩

set_option maxHeartbeats 400000 in
theorem resc_nil (w : World) : Calls Tryz.prog 58 #[.string (strOfNums [])] w fun e w' => EscEnd w ([],0) e w' := by
 have hne : ((strOfNums []).toList == []) = true := by rw [str_list]; rfl
 generalize strOfNums [] = S at hne
 go_enter Tryz.func58,Tryz.ntmps58
 go_wp2
 go_ret2
 exact ⟨_,rfl,World.ownsRow_nil _ _ _ _,Below.refl _ _⟩

theorem resc_any (zs : List Int) (w : World) (hz : Hid (∀ i,0 ≤ zs.getD i 0 ∧ zs.getD i 0 ≤ 255)) (hlen : (zs.length : Int) ≤ 9223372036854775807) :
  Calls Tryz.prog 58 #[.string (strOfNums zs)] w fun e w' => EscEnd w (qesc zs) e w' := by
 cases zs with
 | nil => exact resc_nil w
 | cons c r =>
  rw [qesc]
  simp only [List.length_cons] at hlen
  by_cases k97 : c = 97
  ·rw [if_pos k97]; subst k97; exact resc_97 r w hz (by omega)
  rw [if_neg k97]
  by_cases k98 : c = 98
  ·rw [if_pos k98]; subst k98; exact resc_98 r w hz (by omega)
  rw [if_neg k98]
  by_cases k102 : c = 102
  ·rw [if_pos k102]; subst k102; exact resc_102 r w hz (by omega)
  rw [if_neg k102]
  by_cases k110 : c = 110
  ·rw [if_pos k110]; subst k110; exact resc_110 r w hz (by omega)
  rw [if_neg k110]
  by_cases k114 : c = 114
  ·rw [if_pos k114]; subst k114; exact resc_114 r w hz (by omega)
  rw [if_neg k114]
  by_cases k116 : c = 116
  ·rw [if_pos k116]; subst k116; exact resc_116 r w hz (by omega)
  rw [if_neg k116]
  by_cases k118 : c = 118
  ·rw [if_pos k118]; subst k118; exact resc_118 r w hz (by omega)
  rw [if_neg k118]
  by_cases kq : c = 92 ∨ c = 39 ∨ c = 34 ∨ c = 63
  ·rw [if_pos kq]
   rcases kq with rfl | rfl | rfl | rfl
   ·exact resc_92 r w hz (by omega)
   ·exact resc_39 r w hz (by omega)
   ·exact resc_34 r w hz (by omega)
   ·exact resc_63 r w hz (by omega)
  rw [if_neg kq]
  by_cases kx : c = 120 ∨ c = 88
  ·rw [if_pos kx]
   rcases kx with rfl | rfl
   ·exact resc_120 r w hz (by omega)
   ·exact resc_88 r w hz (by omega)
  rw [if_neg kx]
  by_cases ku : c = 117
  ·rw [if_pos ku]; subst ku; exact resc_117 r w hz (by omega)
  rw [if_neg ku]
  by_cases kU : c = 85
  ·rw [if_pos kU]; subst kU; exact resc_85 r w hz (by omega)
  rw [if_neg kU]
  exact resc_oct c r w hz (by omega) (by simp; omega) (by simp; omega) (by simp; omega) (by simp; omega) (by simp; omega) (by simp; omega) (by simp; omega) (by simp; omega) (by simp; omega) (by simp; omega) (by simp; omega) (by simp; omega) (by simp; omega) (by simp; omega) (by simp; omega)

end Go.Proofs.YtlekfcehmlepkaaGreatDoor
