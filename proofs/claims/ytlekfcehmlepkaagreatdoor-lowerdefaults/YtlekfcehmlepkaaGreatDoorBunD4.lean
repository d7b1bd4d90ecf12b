/- Put together by a program out of these texts of mine: QNum, NRef, NRef2, QDig. -/
import Derived.Deep.QuietTactic
import Derived.BigQuiet
import Derived.WalkSmall
import Derived.Test.YtlekfcehmlepkaaGreatDoorBunD1
import Derived.Test.YtlekfcehmlepkaaGreatDoorBunD3

namespace Go.Proofs.YtlekfcehmlepkaaGreatDoor
open Go.RowKit
set_option linter.unusedVariables false

set_option maxHeartbeats 1000000 in
theorem rnum_10a (zs : List Int) (w : World) (hz : Hid (∀ i,0 ≤ zs.getD i 0 ∧ zs.getD i 0 ≤ 255)) (hlen : (zs.length : Int) ≤ 100000000) (h0 : 0 < zs.length) (h1 : zs.length = 1) :
  Calls Tryz.prog 33 #[.string (strOfNums zs)] w fun e w' => e = .returned (.tuple #[.int .u64 (qnm 10 (zs) 0).1,.bool (qnm 10 (zs) 0).2]) ∧ Below w.heap.size w w' := by
 have hsz := strOfNums_size zs
 have HA : Hid (∀ k,(h : k < zs.length) → (((strOfNums zs)[k]'(by rw [hsz]; exact h)).toNat : Int) = zs.getD k 0) := fun k h => str_at zs hz.out k _
 have hdn : ((strOfNums zs).toList == []) = false := by
  cases zs with
  | nil => simp at h0
  | cons c r => exact str_ne c r
 have HZD := hz
 obtain ⟨R,hR⟩ : ∃ R,R = qnm 10 zs 0 := ⟨_,rfl⟩
 rw [← hR]
 have HR : Hid (R = qnm 10 (zs.drop 0) 0) := hR
 clear hR
 go_enter Tryz.func33,Tryz.ntmps33
 go_wp2
 go_loopw [6,7] (fun v i wr => ∃ (n : Int) (k : Nat),v = .int .u64 n ∧ i = .int .i64 (k : Int) ∧ 0 ≤ n ∧ n ≤ 18446744073709551615 ∧ k ≤ zs.length ∧ Hid (R = qnm 10 (zs.drop k) n) ∧ wr = w) (fun _ i _ => zs.length - (intOf i).toNat)
 case atStart => exact ⟨0,0,rfl,rfl,by omega,by omega,by omega,HR,rfl⟩
 case round =>
  obtain ⟨n,k,rfl,rfl,n0,n1,hkl,HQ,rfl⟩ := hrel
  by_cases hk : k < zs.length
  ·have hat := HA.out k hk
   obtain ⟨c0,c255⟩ := HZD.out k
   have HQ' := HQ.out
   rw [drop_at hk,qnm] at HQ'
   generalize zs.getD k 0 = c at hat c0 c255 HQ'
   have q := fun W => rdigit_any c W c0 c255
   obtain ⟨d0,d99⟩ := dgt_bd c
   generalize dgt c = d at q d0 d99 HQ'
   have Q : Hid _ := q
   have HQ2 : Hid _ := HQ'
   clear HQ' HQ q HR
   by_cases hb : 10 ≤ d
   ·have E : Hid (R = (0,false)) := by have := HQ2.out; rw [if_pos (Or.inl hb)] at this; exact this
    clear HQ2
    go_wp2_with fail
    refine Calls.mono (Q.out _) ?_
    rintro e w1 ⟨rfl,rfl⟩
    go_wp2
    go_ret2
    exact ⟨by rw [E.out]; rfl,Below.refl _ _⟩
   ·by_cases ho : (18446744073709551615 - d) / 10 < n
    ·have E : Hid (R = (0,false)) := by have := HQ2.out; rw [if_pos (Or.inr ho)] at this; exact this
     clear HQ2
     go_wp2_with fail
     refine Calls.mono (Q.out _) ?_
     rintro e w1 ⟨rfl,rfl⟩
     go_wp2
     go_ret2
     exact ⟨by rw [E.out]; rfl,Below.refl _ _⟩
    ·have E : Hid (R = qnm 10 (zs.drop (k + 1)) (n * 10 + d)) := by have := HQ2.out; rw [if_neg (by omega)] at this; exact this
     clear HQ2
     go_wp2_with fail
     refine Calls.mono (Q.out _) ?_
     rintro e w1 ⟨rfl,rfl⟩
     go_wp2
     go_roundw
     case rel => exact ⟨n * 10 + d,k + 1,rfl,by go_num,by omega,by omega,by omega,E,by first | rfl | trivial⟩
     case measure => simp [intOf]; omega
  ·obtain rfl : k = zs.length := by omega
   have E : Hid (R = (n,true)) := by show _ = _; rw [HQ.out,List.drop_eq_nil_of_le (Nat.le_refl _)]; rfl
   clear HQ HR
   go_wp2
   go_ret2
   exact ⟨by rw [E.out]; rfl,Below.refl _ _⟩

set_option maxHeartbeats 1000000 in
theorem rnum_10b (zs : List Int) (w : World) (hz : Hid (∀ i,0 ≤ zs.getD i 0 ∧ zs.getD i 0 ≤ 255)) (hlen : (zs.length : Int) ≤ 100000000) (h0 : 0 < zs.length) (h1 : zs.length = 2) (hn : (zs.getD 0 0 == 48) = false) :
  Calls Tryz.prog 33 #[.string (strOfNums zs)] w fun e w' => e = .returned (.tuple #[.int .u64 (qnm 10 (zs) 0).1,.bool (qnm 10 (zs) 0).2]) ∧ Below w.heap.size w w' := by
 have hsz := strOfNums_size zs
 obtain ⟨cz,hcz⟩ : ∃ c,c = zs.getD 0 0 := ⟨_,rfl⟩
 have hat0 := str_at zs hz.out 0 (by rw [hsz]; omega)
 rw [← hcz] at hat0 hn
 obtain ⟨cz0,cz1⟩ := hz.out 0
 rw [← hcz] at cz0 cz1
 clear hcz
 have HA : Hid (∀ k,(h : k < zs.length) → (((strOfNums zs)[k]'(by rw [hsz]; exact h)).toNat : Int) = zs.getD k 0) := fun k h => str_at zs hz.out k _
 have hdn : ((strOfNums zs).toList == []) = false := by
  cases zs with
  | nil => simp at h0
  | cons c r => exact str_ne c r
 have HZD := hz
 obtain ⟨R,hR⟩ : ∃ R,R = qnm 10 zs 0 := ⟨_,rfl⟩
 rw [← hR]
 have HR : Hid (R = qnm 10 (zs.drop 0) 0) := hR
 clear hR
 go_enter Tryz.func33,Tryz.ntmps33
 go_wp2
 go_loopw [6,7] (fun v i wr => ∃ (n : Int) (k : Nat),v = .int .u64 n ∧ i = .int .i64 (k : Int) ∧ 0 ≤ n ∧ n ≤ 18446744073709551615 ∧ k ≤ zs.length ∧ Hid (R = qnm 10 (zs.drop k) n) ∧ wr = w) (fun _ i _ => zs.length - (intOf i).toNat)
 case atStart => exact ⟨0,0,rfl,rfl,by omega,by omega,by omega,HR,rfl⟩
 case round =>
  obtain ⟨n,k,rfl,rfl,n0,n1,hkl,HQ,rfl⟩ := hrel
  by_cases hk : k < zs.length
  ·have hat := HA.out k hk
   obtain ⟨c0,c255⟩ := HZD.out k
   have HQ' := HQ.out
   rw [drop_at hk,qnm] at HQ'
   generalize zs.getD k 0 = c at hat c0 c255 HQ'
   have q := fun W => rdigit_any c W c0 c255
   obtain ⟨d0,d99⟩ := dgt_bd c
   generalize dgt c = d at q d0 d99 HQ'
   have Q : Hid _ := q
   have HQ2 : Hid _ := HQ'
   clear HQ' HQ q HR
   by_cases hb : 10 ≤ d
   ·have E : Hid (R = (0,false)) := by have := HQ2.out; rw [if_pos (Or.inl hb)] at this; exact this
    clear HQ2
    go_wp2_with fail
    refine Calls.mono (Q.out _) ?_
    rintro e w1 ⟨rfl,rfl⟩
    go_wp2
    go_ret2
    exact ⟨by rw [E.out]; rfl,Below.refl _ _⟩
   ·by_cases ho : (18446744073709551615 - d) / 10 < n
    ·have E : Hid (R = (0,false)) := by have := HQ2.out; rw [if_pos (Or.inr ho)] at this; exact this
     clear HQ2
     go_wp2_with fail
     refine Calls.mono (Q.out _) ?_
     rintro e w1 ⟨rfl,rfl⟩
     go_wp2
     go_ret2
     exact ⟨by rw [E.out]; rfl,Below.refl _ _⟩
    ·have E : Hid (R = qnm 10 (zs.drop (k + 1)) (n * 10 + d)) := by have := HQ2.out; rw [if_neg (by omega)] at this; exact this
     clear HQ2
     go_wp2_with fail
     refine Calls.mono (Q.out _) ?_
     rintro e w1 ⟨rfl,rfl⟩
     go_wp2
     go_roundw
     case rel => exact ⟨n * 10 + d,k + 1,rfl,by go_num,by omega,by omega,by omega,E,by first | rfl | trivial⟩
     case measure => simp [intOf]; omega
  ·obtain rfl : k = zs.length := by omega
   have E : Hid (R = (n,true)) := by show _ = _; rw [HQ.out,List.drop_eq_nil_of_le (Nat.le_refl _)]; rfl
   clear HQ HR
   go_wp2
   go_ret2
   exact ⟨by rw [E.out]; rfl,Below.refl _ _⟩

set_option maxHeartbeats 1000000 in
theorem rnum_10c (zs : List Int) (w : World) (hz : Hid (∀ i,0 ≤ zs.getD i 0 ∧ zs.getD i 0 ≤ 255)) (hlen : (zs.length : Int) ≤ 100000000) (h0 : 0 < zs.length) (h1 : 2 < zs.length) (hn : (zs.getD 0 0 == 48) = false) :
  Calls Tryz.prog 33 #[.string (strOfNums zs)] w fun e w' => e = .returned (.tuple #[.int .u64 (qnm 10 (zs) 0).1,.bool (qnm 10 (zs) 0).2]) ∧ Below w.heap.size w w' := by
 have hsz := strOfNums_size zs
 obtain ⟨cz,hcz⟩ : ∃ c,c = zs.getD 0 0 := ⟨_,rfl⟩
 have hat0 := str_at zs hz.out 0 (by rw [hsz]; omega)
 rw [← hcz] at hat0 hn
 obtain ⟨cz0,cz1⟩ := hz.out 0
 rw [← hcz] at cz0 cz1
 clear hcz
 have HA : Hid (∀ k,(h : k < zs.length) → (((strOfNums zs)[k]'(by rw [hsz]; exact h)).toNat : Int) = zs.getD k 0) := fun k h => str_at zs hz.out k _
 have hdn : ((strOfNums zs).toList == []) = false := by
  cases zs with
  | nil => simp at h0
  | cons c r => exact str_ne c r
 have HZD := hz
 obtain ⟨R,hR⟩ : ∃ R,R = qnm 10 zs 0 := ⟨_,rfl⟩
 rw [← hR]
 have HR : Hid (R = qnm 10 (zs.drop 0) 0) := hR
 clear hR
 go_enter Tryz.func33,Tryz.ntmps33
 go_wp2
 go_loopw [6,7] (fun v i wr => ∃ (n : Int) (k : Nat),v = .int .u64 n ∧ i = .int .i64 (k : Int) ∧ 0 ≤ n ∧ n ≤ 18446744073709551615 ∧ k ≤ zs.length ∧ Hid (R = qnm 10 (zs.drop k) n) ∧ wr = w) (fun _ i _ => zs.length - (intOf i).toNat)
 case atStart => exact ⟨0,0,rfl,rfl,by omega,by omega,by omega,HR,rfl⟩
 case round =>
  obtain ⟨n,k,rfl,rfl,n0,n1,hkl,HQ,rfl⟩ := hrel
  by_cases hk : k < zs.length
  ·have hat := HA.out k hk
   obtain ⟨c0,c255⟩ := HZD.out k
   have HQ' := HQ.out
   rw [drop_at hk,qnm] at HQ'
   generalize zs.getD k 0 = c at hat c0 c255 HQ'
   have q := fun W => rdigit_any c W c0 c255
   obtain ⟨d0,d99⟩ := dgt_bd c
   generalize dgt c = d at q d0 d99 HQ'
   have Q : Hid _ := q
   have HQ2 : Hid _ := HQ'
   clear HQ' HQ q HR
   by_cases hb : 10 ≤ d
   ·have E : Hid (R = (0,false)) := by have := HQ2.out; rw [if_pos (Or.inl hb)] at this; exact this
    clear HQ2
    go_wp2_with fail
    refine Calls.mono (Q.out _) ?_
    rintro e w1 ⟨rfl,rfl⟩
    go_wp2
    go_ret2
    exact ⟨by rw [E.out]; rfl,Below.refl _ _⟩
   ·by_cases ho : (18446744073709551615 - d) / 10 < n
    ·have E : Hid (R = (0,false)) := by have := HQ2.out; rw [if_pos (Or.inr ho)] at this; exact this
     clear HQ2
     go_wp2_with fail
     refine Calls.mono (Q.out _) ?_
     rintro e w1 ⟨rfl,rfl⟩
     go_wp2
     go_ret2
     exact ⟨by rw [E.out]; rfl,Below.refl _ _⟩
    ·have E : Hid (R = qnm 10 (zs.drop (k + 1)) (n * 10 + d)) := by have := HQ2.out; rw [if_neg (by omega)] at this; exact this
     clear HQ2
     go_wp2_with fail
     refine Calls.mono (Q.out _) ?_
     rintro e w1 ⟨rfl,rfl⟩
     go_wp2
     go_roundw
     case rel => exact ⟨n * 10 + d,k + 1,rfl,by go_num,by omega,by omega,by omega,E,by first | rfl | trivial⟩
     case measure => simp [intOf]; omega
  ·obtain rfl : k = zs.length := by omega
   have E : Hid (R = (n,true)) := by show _ = _; rw [HQ.out,List.drop_eq_nil_of_le (Nat.le_refl _)]; rfl
   clear HQ HR
   go_wp2
   go_ret2
   exact ⟨by rw [E.out]; rfl,Below.refl _ _⟩

set_option maxHeartbeats 1000000 in
theorem rnum_8a (zs : List Int) (w : World) (hz : Hid (∀ i,0 ≤ zs.getD i 0 ∧ zs.getD i 0 ≤ 255)) (hlen : (zs.length : Int) ≤ 100000000) (h1 : zs.length = 2) (hv0 : zs.getD 0 0 = 48) :
  Calls Tryz.prog 33 #[.string (strOfNums zs)] w fun e w' => e = .returned (.tuple #[.int .u64 (qnm 8 (zs.drop 1) 0).1,.bool (qnm 8 (zs.drop 1) 0).2]) ∧ Below w.heap.size w w' := by
 have hsz := strOfNums_size zs
 have hat0 := str_at zs hz.out 0 (by rw [hsz]; omega)
 rw [hv0] at hat0
 have hex : (strOfNums zs).extract 1 zs.length = strOfNums (zs.drop 1) := by rw [str_cut,List.take_of_length_le (by simp)]
 have HZD : Hid (∀ i,0 ≤ (zs.drop 1).getD i 0 ∧ (zs.drop 1).getD i 0 ≤ 255) := fun i => by rw [getD_drop']; exact hz.out _
 have hdl : (zs.drop 1).length = zs.length - 1 := List.length_drop
 generalize zs.drop 1 = D at hex HZD hdl
 rw [h1] at hex
 have hsd := strOfNums_size D
 have HA : Hid (∀ k,(h : k < D.length) → (((strOfNums D)[k]'(by rw [hsd]; exact h)).toNat : Int) = D.getD k 0) := fun k h => str_at D HZD.out k _
 have hdn : ((strOfNums D).toList == []) = false := by
  cases D with
  | nil => simp at hdl; omega
  | cons c r => exact str_ne c r
 obtain ⟨R,hR⟩ : ∃ R,R = qnm 8 D 0 := ⟨_,rfl⟩
 rw [← hR]
 have HR : Hid (R = qnm 8 (D.drop 0) 0) := hR
 clear hR
 go_enter Tryz.func33,Tryz.ntmps33
 go_wp2
 go_quiet (fail)
 go_wp2
 go_loopw [6,7] (fun v i wr => ∃ (n : Int) (k : Nat),v = .int .u64 n ∧ i = .int .i64 (k : Int) ∧ 0 ≤ n ∧ n ≤ 18446744073709551615 ∧ k ≤ D.length ∧ Hid (R = qnm 8 (D.drop k) n) ∧ wr = w.drewN nq) (fun _ i _ => D.length - (intOf i).toNat)
 case atStart => exact ⟨0,0,rfl,rfl,by omega,by omega,by omega,HR,rfl⟩
 case round =>
  obtain ⟨n,k,rfl,rfl,n0,n1,hkl,HQ,rfl⟩ := hrel
  by_cases hk : k < D.length
  ·have hat := HA.out k hk
   obtain ⟨c0,c255⟩ := HZD.out k
   have HQ' := HQ.out
   rw [drop_at hk,qnm] at HQ'
   generalize D.getD k 0 = c at hat c0 c255 HQ'
   have q := fun W => rdigit_any c W c0 c255
   obtain ⟨d0,d99⟩ := dgt_bd c
   generalize dgt c = d at q d0 d99 HQ'
   have Q : Hid _ := q
   have HQ2 : Hid _ := HQ'
   clear HQ' HQ q HR
   by_cases hb : 8 ≤ d
   ·have E : Hid (R = (0,false)) := by have := HQ2.out; rw [if_pos (Or.inl hb)] at this; exact this
    clear HQ2
    go_wp2_with fail
    refine Calls.mono (Q.out _) ?_
    rintro e w1 ⟨rfl,rfl⟩
    go_wp2
    go_ret2
    exact ⟨by rw [E.out]; rfl,below_drewN (Below.refl _ _) _⟩
   ·by_cases ho : (18446744073709551615 - d) / 8 < n
    ·have E : Hid (R = (0,false)) := by have := HQ2.out; rw [if_pos (Or.inr ho)] at this; exact this
     clear HQ2
     go_wp2_with fail
     refine Calls.mono (Q.out _) ?_
     rintro e w1 ⟨rfl,rfl⟩
     go_wp2
     go_ret2
     exact ⟨by rw [E.out]; rfl,below_drewN (Below.refl _ _) _⟩
    ·have E : Hid (R = qnm 8 (D.drop (k + 1)) (n * 8 + d)) := by have := HQ2.out; rw [if_neg (by omega)] at this; exact this
     clear HQ2
     go_wp2_with fail
     refine Calls.mono (Q.out _) ?_
     rintro e w1 ⟨rfl,rfl⟩
     go_wp2
     go_roundw
     case rel => exact ⟨n * 8 + d,k + 1,rfl,by go_num,by omega,by omega,by omega,E,by first | rfl | trivial⟩
     case measure => simp [intOf]; omega
  ·obtain rfl : k = D.length := by omega
   have E : Hid (R = (n,true)) := by show _ = _; rw [HQ.out,List.drop_eq_nil_of_le (Nat.le_refl _)]; rfl
   clear HQ HR
   go_wp2
   go_ret2
   exact ⟨by rw [E.out]; rfl,below_drewN (Below.refl _ _) _⟩

set_option maxHeartbeats 1000000 in
theorem rnum_8b (zs : List Int) (w : World) (hz : Hid (∀ i,0 ≤ zs.getD i 0 ∧ zs.getD i 0 ≤ 255)) (hlen : (zs.length : Int) ≤ 100000000) (h1 : 2 < zs.length) (hv0 : zs.getD 0 0 = 48) (hn : (zs.getD 1 0 == 120) = false) (hm : (zs.getD 1 0 == 88) = false) :
  Calls Tryz.prog 33 #[.string (strOfNums zs)] w fun e w' => e = .returned (.tuple #[.int .u64 (qnm 8 (zs.drop 1) 0).1,.bool (qnm 8 (zs.drop 1) 0).2]) ∧ Below w.heap.size w w' := by
 have hsz := strOfNums_size zs
 have hat0 := str_at zs hz.out 0 (by rw [hsz]; omega)
 rw [hv0] at hat0
 obtain ⟨cz,hcz⟩ : ∃ c,c = zs.getD 1 0 := ⟨_,rfl⟩
 have hat1 := str_at zs hz.out 1 (by rw [hsz]; omega)
 rw [← hcz] at hat1 hn hm
 obtain ⟨cz0,cz1⟩ := hz.out 1
 rw [← hcz] at cz0 cz1
 clear hcz
 have hex : (strOfNums zs).extract 1 zs.length = strOfNums (zs.drop 1) := by rw [str_cut,List.take_of_length_le (by simp)]
 have HZD : Hid (∀ i,0 ≤ (zs.drop 1).getD i 0 ∧ (zs.drop 1).getD i 0 ≤ 255) := fun i => by rw [getD_drop']; exact hz.out _
 have hdl : (zs.drop 1).length = zs.length - 1 := List.length_drop
 generalize zs.drop 1 = D at hex HZD hdl
 have hsd := strOfNums_size D
 have HA : Hid (∀ k,(h : k < D.length) → (((strOfNums D)[k]'(by rw [hsd]; exact h)).toNat : Int) = D.getD k 0) := fun k h => str_at D HZD.out k _
 have hdn : ((strOfNums D).toList == []) = false := by
  cases D with
  | nil => simp at hdl; omega
  | cons c r => exact str_ne c r
 obtain ⟨R,hR⟩ : ∃ R,R = qnm 8 D 0 := ⟨_,rfl⟩
 rw [← hR]
 have HR : Hid (R = qnm 8 (D.drop 0) 0) := hR
 clear hR
 go_enter Tryz.func33,Tryz.ntmps33
 go_wp2
 go_quiet (fail)
 go_wp2
 go_loopw [6,7] (fun v i wr => ∃ (n : Int) (k : Nat),v = .int .u64 n ∧ i = .int .i64 (k : Int) ∧ 0 ≤ n ∧ n ≤ 18446744073709551615 ∧ k ≤ D.length ∧ Hid (R = qnm 8 (D.drop k) n) ∧ wr = w.drewN nq) (fun _ i _ => D.length - (intOf i).toNat)
 case atStart => exact ⟨0,0,rfl,rfl,by omega,by omega,by omega,HR,rfl⟩
 case round =>
  obtain ⟨n,k,rfl,rfl,n0,n1,hkl,HQ,rfl⟩ := hrel
  by_cases hk : k < D.length
  ·have hat := HA.out k hk
   obtain ⟨c0,c255⟩ := HZD.out k
   have HQ' := HQ.out
   rw [drop_at hk,qnm] at HQ'
   generalize D.getD k 0 = c at hat c0 c255 HQ'
   have q := fun W => rdigit_any c W c0 c255
   obtain ⟨d0,d99⟩ := dgt_bd c
   generalize dgt c = d at q d0 d99 HQ'
   have Q : Hid _ := q
   have HQ2 : Hid _ := HQ'
   clear HQ' HQ q HR
   by_cases hb : 8 ≤ d
   ·have E : Hid (R = (0,false)) := by have := HQ2.out; rw [if_pos (Or.inl hb)] at this; exact this
    clear HQ2
    go_wp2_with fail
    refine Calls.mono (Q.out _) ?_
    rintro e w1 ⟨rfl,rfl⟩
    go_wp2
    go_ret2
    exact ⟨by rw [E.out]; rfl,below_drewN (Below.refl _ _) _⟩
   ·by_cases ho : (18446744073709551615 - d) / 8 < n
    ·have E : Hid (R = (0,false)) := by have := HQ2.out; rw [if_pos (Or.inr ho)] at this; exact this
     clear HQ2
     go_wp2_with fail
     refine Calls.mono (Q.out _) ?_
     rintro e w1 ⟨rfl,rfl⟩
     go_wp2
     go_ret2
     exact ⟨by rw [E.out]; rfl,below_drewN (Below.refl _ _) _⟩
    ·have E : Hid (R = qnm 8 (D.drop (k + 1)) (n * 8 + d)) := by have := HQ2.out; rw [if_neg (by omega)] at this; exact this
     clear HQ2
     go_wp2_with fail
     refine Calls.mono (Q.out _) ?_
     rintro e w1 ⟨rfl,rfl⟩
     go_wp2
     go_roundw
     case rel => exact ⟨n * 8 + d,k + 1,rfl,by go_num,by omega,by omega,by omega,E,by first | rfl | trivial⟩
     case measure => simp [intOf]; omega
  ·obtain rfl : k = D.length := by omega
   have E : Hid (R = (n,true)) := by show _ = _; rw [HQ.out,List.drop_eq_nil_of_le (Nat.le_refl _)]; rfl
   clear HQ HR
   go_wp2
   go_ret2
   exact ⟨by rw [E.out]; rfl,below_drewN (Below.refl _ _) _⟩

set_option maxHeartbeats 1000000 in
theorem rnum_16a (zs : List Int) (w : World) (hz : Hid (∀ i,0 ≤ zs.getD i 0 ∧ zs.getD i 0 ≤ 255)) (hlen : (zs.length : Int) ≤ 100000000) (h1 : 2 < zs.length) (hv0 : zs.getD 0 0 = 48) (hv1 : zs.getD 1 0 = 120) :
  Calls Tryz.prog 33 #[.string (strOfNums zs)] w fun e w' => e = .returned (.tuple #[.int .u64 (qnm 16 (zs.drop 2) 0).1,.bool (qnm 16 (zs.drop 2) 0).2]) ∧ Below w.heap.size w w' := by
 have hsz := strOfNums_size zs
 have hat0 := str_at zs hz.out 0 (by rw [hsz]; omega)
 rw [hv0] at hat0
 have hat1 := str_at zs hz.out 1 (by rw [hsz]; omega)
 rw [hv1] at hat1
 have hex : (strOfNums zs).extract 2 zs.length = strOfNums (zs.drop 2) := by rw [str_cut,List.take_of_length_le (by simp)]
 have HZD : Hid (∀ i,0 ≤ (zs.drop 2).getD i 0 ∧ (zs.drop 2).getD i 0 ≤ 255) := fun i => by rw [getD_drop']; exact hz.out _
 have hdl : (zs.drop 2).length = zs.length - 2 := List.length_drop
 generalize zs.drop 2 = D at hex HZD hdl
 have hsd := strOfNums_size D
 have HA : Hid (∀ k,(h : k < D.length) → (((strOfNums D)[k]'(by rw [hsd]; exact h)).toNat : Int) = D.getD k 0) := fun k h => str_at D HZD.out k _
 have hdn : ((strOfNums D).toList == []) = false := by
  cases D with
  | nil => simp at hdl; omega
  | cons c r => exact str_ne c r
 obtain ⟨R,hR⟩ : ∃ R,R = qnm 16 D 0 := ⟨_,rfl⟩
 rw [← hR]
 have HR : Hid (R = qnm 16 (D.drop 0) 0) := hR
 clear hR
 go_enter Tryz.func33,Tryz.ntmps33
 go_wp2
 go_quiet (fail)
 go_wp2
 go_loopw [6,7] (fun v i wr => ∃ (n : Int) (k : Nat),v = .int .u64 n ∧ i = .int .i64 (k : Int) ∧ 0 ≤ n ∧ n ≤ 18446744073709551615 ∧ k ≤ D.length ∧ Hid (R = qnm 16 (D.drop k) n) ∧ wr = w.drewN nq) (fun _ i _ => D.length - (intOf i).toNat)
 case atStart => exact ⟨0,0,rfl,rfl,by omega,by omega,by omega,HR,rfl⟩
 case round =>
  obtain ⟨n,k,rfl,rfl,n0,n1,hkl,HQ,rfl⟩ := hrel
  by_cases hk : k < D.length
  ·have hat := HA.out k hk
   obtain ⟨c0,c255⟩ := HZD.out k
   have HQ' := HQ.out
   rw [drop_at hk,qnm] at HQ'
   generalize D.getD k 0 = c at hat c0 c255 HQ'
   have q := fun W => rdigit_any c W c0 c255
   obtain ⟨d0,d99⟩ := dgt_bd c
   generalize dgt c = d at q d0 d99 HQ'
   have Q : Hid _ := q
   have HQ2 : Hid _ := HQ'
   clear HQ' HQ q HR
   by_cases hb : 16 ≤ d
   ·have E : Hid (R = (0,false)) := by have := HQ2.out; rw [if_pos (Or.inl hb)] at this; exact this
    clear HQ2
    go_wp2_with fail
    refine Calls.mono (Q.out _) ?_
    rintro e w1 ⟨rfl,rfl⟩
    go_wp2
    go_ret2
    exact ⟨by rw [E.out]; rfl,below_drewN (Below.refl _ _) _⟩
   ·by_cases ho : (18446744073709551615 - d) / 16 < n
    ·have E : Hid (R = (0,false)) := by have := HQ2.out; rw [if_pos (Or.inr ho)] at this; exact this
     clear HQ2
     go_wp2_with fail
     refine Calls.mono (Q.out _) ?_
     rintro e w1 ⟨rfl,rfl⟩
     go_wp2
     go_ret2
     exact ⟨by rw [E.out]; rfl,below_drewN (Below.refl _ _) _⟩
    ·have E : Hid (R = qnm 16 (D.drop (k + 1)) (n * 16 + d)) := by have := HQ2.out; rw [if_neg (by omega)] at this; exact this
     clear HQ2
     go_wp2_with fail
     refine Calls.mono (Q.out _) ?_
     rintro e w1 ⟨rfl,rfl⟩
     go_wp2
     go_roundw
     case rel => exact ⟨n * 16 + d,k + 1,rfl,by go_num,by omega,by omega,by omega,E,by first | rfl | trivial⟩
     case measure => simp [intOf]; omega
  ·obtain rfl : k = D.length := by omega
   have E : Hid (R = (n,true)) := by show _ = _; rw [HQ.out,List.drop_eq_nil_of_le (Nat.le_refl _)]; rfl
   clear HQ HR
   go_wp2
   go_ret2
   exact ⟨by rw [E.out]; rfl,below_drewN (Below.refl _ _) _⟩

set_option maxHeartbeats 1000000 in
theorem rnum_16b (zs : List Int) (w : World) (hz : Hid (∀ i,0 ≤ zs.getD i 0 ∧ zs.getD i 0 ≤ 255)) (hlen : (zs.length : Int) ≤ 100000000) (h1 : 2 < zs.length) (hv0 : zs.getD 0 0 = 48) (hv1 : zs.getD 1 0 = 88) :
  Calls Tryz.prog 33 #[.string (strOfNums zs)] w fun e w' => e = .returned (.tuple #[.int .u64 (qnm 16 (zs.drop 2) 0).1,.bool (qnm 16 (zs.drop 2) 0).2]) ∧ Below w.heap.size w w' := by
 have hsz := strOfNums_size zs
 have hat0 := str_at zs hz.out 0 (by rw [hsz]; omega)
 rw [hv0] at hat0
 have hat1 := str_at zs hz.out 1 (by rw [hsz]; omega)
 rw [hv1] at hat1
 have hex : (strOfNums zs).extract 2 zs.length = strOfNums (zs.drop 2) := by rw [str_cut,List.take_of_length_le (by simp)]
 have HZD : Hid (∀ i,0 ≤ (zs.drop 2).getD i 0 ∧ (zs.drop 2).getD i 0 ≤ 255) := fun i => by rw [getD_drop']; exact hz.out _
 have hdl : (zs.drop 2).length = zs.length - 2 := List.length_drop
 generalize zs.drop 2 = D at hex HZD hdl
 have hsd := strOfNums_size D
 have HA : Hid (∀ k,(h : k < D.length) → (((strOfNums D)[k]'(by rw [hsd]; exact h)).toNat : Int) = D.getD k 0) := fun k h => str_at D HZD.out k _
 have hdn : ((strOfNums D).toList == []) = false := by
  cases D with
  | nil => simp at hdl; omega
  | cons c r => exact str_ne c r
 obtain ⟨R,hR⟩ : ∃ R,R = qnm 16 D 0 := ⟨_,rfl⟩
 rw [← hR]
 have HR : Hid (R = qnm 16 (D.drop 0) 0) := hR
 clear hR
 go_enter Tryz.func33,Tryz.ntmps33
 go_wp2
 go_quiet (fail)
 go_wp2
 go_loopw [6,7] (fun v i wr => ∃ (n : Int) (k : Nat),v = .int .u64 n ∧ i = .int .i64 (k : Int) ∧ 0 ≤ n ∧ n ≤ 18446744073709551615 ∧ k ≤ D.length ∧ Hid (R = qnm 16 (D.drop k) n) ∧ wr = w.drewN nq) (fun _ i _ => D.length - (intOf i).toNat)
 case atStart => exact ⟨0,0,rfl,rfl,by omega,by omega,by omega,HR,rfl⟩
 case round =>
  obtain ⟨n,k,rfl,rfl,n0,n1,hkl,HQ,rfl⟩ := hrel
  by_cases hk : k < D.length
  ·have hat := HA.out k hk
   obtain ⟨c0,c255⟩ := HZD.out k
   have HQ' := HQ.out
   rw [drop_at hk,qnm] at HQ'
   generalize D.getD k 0 = c at hat c0 c255 HQ'
   have q := fun W => rdigit_any c W c0 c255
   obtain ⟨d0,d99⟩ := dgt_bd c
   generalize dgt c = d at q d0 d99 HQ'
   have Q : Hid _ := q
   have HQ2 : Hid _ := HQ'
   clear HQ' HQ q HR
   by_cases hb : 16 ≤ d
   ·have E : Hid (R = (0,false)) := by have := HQ2.out; rw [if_pos (Or.inl hb)] at this; exact this
    clear HQ2
    go_wp2_with fail
    refine Calls.mono (Q.out _) ?_
    rintro e w1 ⟨rfl,rfl⟩
    go_wp2
    go_ret2
    exact ⟨by rw [E.out]; rfl,below_drewN (Below.refl _ _) _⟩
   ·by_cases ho : (18446744073709551615 - d) / 16 < n
    ·have E : Hid (R = (0,false)) := by have := HQ2.out; rw [if_pos (Or.inr ho)] at this; exact this
     clear HQ2
     go_wp2_with fail
     refine Calls.mono (Q.out _) ?_
     rintro e w1 ⟨rfl,rfl⟩
     go_wp2
     go_ret2
     exact ⟨by rw [E.out]; rfl,below_drewN (Below.refl _ _) _⟩
    ·have E : Hid (R = qnm 16 (D.drop (k + 1)) (n * 16 + d)) := by have := HQ2.out; rw [if_neg (by omega)] at this; exact this
     clear HQ2
     go_wp2_with fail
     refine Calls.mono (Q.out _) ?_
     rintro e w1 ⟨rfl,rfl⟩
     go_wp2
     go_roundw
     case rel => exact ⟨n * 16 + d,k + 1,rfl,by go_num,by omega,by omega,by omega,E,by first | rfl | trivial⟩
     case measure => simp [intOf]; omega
  ·obtain rfl : k = D.length := by omega
   have E : Hid (R = (n,true)) := by show _ = _; rw [HQ.out,List.drop_eq_nil_of_le (Nat.le_refl _)]; rfl
   clear HQ HR
   go_wp2
   go_ret2
   exact ⟨by rw [E.out]; rfl,below_drewN (Below.refl _ _) _⟩

set_option maxHeartbeats 400000 in
theorem rnum_nil (w : World) : Calls Tryz.prog 33 #[.string (strOfNums [])] w fun e w' => e = .returned (.tuple #[.int .u64 0,.bool false]) ∧ w = w' := by
 have hne : ((strOfNums []).toList == []) = true := by rw [str_list]; rfl
 have hsz : (strOfNums []).size = 0 := strOfNums_size []
 generalize strOfNums [] = S at hne hsz
 go_enter Tryz.func33,Tryz.ntmps33
 go_wp2
 refine wp_loop_rounds 1 ?_
 rw [rounds_succ]
 go_wp2
 go_ret2
 exact ⟨rfl,rfl⟩

theorem rnum_any (zs : List Int) (w : World) (hz : Hid (∀ i,0 ≤ zs.getD i 0 ∧ zs.getD i 0 ≤ 255)) (hlen : (zs.length : Int) ≤ 100000000) :
  Calls Tryz.prog 33 #[.string (strOfNums zs)] w fun e w' => e = .returned (.tuple #[.int .u64 (qnum zs).1,.bool (qnum zs).2]) ∧ Below w.heap.size w w' := by
 by_cases h0 : zs = []
 ·subst h0
  exact (rnum_nil w).mono fun e w' ⟨h1,h2⟩ => ⟨h1,h2 ▸ Below.refl _ _⟩
 have hp : 0 < zs.length := List.length_pos_iff.2 h0
 unfold qnum
 by_cases h1 : zs.length = 1
 ·rw [if_neg (by omega),if_neg (by omega),if_neg h0]
  exact rnum_10a zs w hz hlen hp h1
 by_cases hv : zs.getD 0 0 = 48
 ·by_cases h2 : zs.length = 2
  ·rw [if_neg (by omega),if_pos ⟨by omega,hv⟩]
   exact rnum_8a zs w hz hlen h2 hv
  ·by_cases hx : zs.getD 1 0 = 120
   ·rw [if_pos ⟨by omega,hv,Or.inl hx⟩]
    exact rnum_16a zs w hz hlen (by omega) hv hx
   by_cases hX : zs.getD 1 0 = 88
   ·rw [if_pos ⟨by omega,hv,Or.inr hX⟩]
    exact rnum_16b zs w hz hlen (by omega) hv hX
   rw [if_neg (by omega),if_pos ⟨by omega,hv⟩]
   exact rnum_8b zs w hz hlen (by omega) hv (by simpa using hx) (by simpa using hX)
 ·rw [if_neg (by omega),if_neg (by omega),if_neg h0]
  by_cases h2 : zs.length = 2
  ·exact rnum_10b zs w hz hlen hp h2 (by simpa using hv)
  ·exact rnum_10c zs w hz hlen hp (by omega) (by simpa using hv)

theorem enc_1 (c : Int) (h0 : 0 ≤ c) (h1 : c < 128) : Utf8.encode c = strOfNums [c] := by
 have hv : Utf8.valid c = true := by unfold Utf8.valid; simp; omega
 unfold Utf8.encode
 rw [hv]
 simp only [if_true]
 rw [if_pos (by omega)]
 rfl

theorem str_app (a b : List Int) : strOfNums a ++ strOfNums b = strOfNums (a ++ b) := by
 unfold strOfNums
 rw [ByteArray.mk_append_mk,List.map_append]

theorem run_add (w : World) (a b : List Int) (h : a.length + b.length ≤ 9223372036854775807) : (Op.stringOp .add (strOfNums a) (strOfNums b)).run Tryz.prog w = .ok (.string (strOfNums (a ++ b))) w := by
 rw [run_string_add_sum w _ _ (by rw [strOfNums_size,strOfNums_size]; exact h),str_app]

end Go.Proofs.YtlekfcehmlepkaaGreatDoor

namespace Go.Proofs.YtlekfcehmlepkaaGreatDoor
open Go.RowKit
set_option linter.unusedVariables false
set_option linter.unusedSimpArgs false

theorem nident_big (s : List Int) (h : 200 < s.length ∨ s.length = 0) : nident s = false := by
 unfold nident
 rw [decide_eq_false (by omega)]
 simp

theorem nident_bad (s : List Int) (k : Nat) (hk : k < s.length) (h : lletter (s.getD k 0) = false) : nident s = false := by
 unfold nident
 have : s.all lletter = false := by
  rw [List.all_eq_false]
  refine ⟨s[k],List.getElem_mem hk,?_⟩
  rw [show s.getD k 0 = s[k] by simp [List.getD,hk]] at h
  rw [h]; decide
 rw [this]; rfl

theorem nident_good (s : List Int) (h : ∀ k,k < s.length → lletter (s.getD k 0) = true) (h1 : 1 ≤ s.length) (h2 : s.length ≤ 200) : nident s = !lnumb (s.getD 0 0) := by
 unfold nident
 have : s.all lletter = true := by
  rw [List.all_eq_true]
  intro c hc
  obtain ⟨k,hk,rfl⟩ := List.getElem_of_mem hc
  have := h k hk
  rwa [show s.getD k 0 = s[k] by simp [List.getD,hk]] at this
 rw [this,decide_eq_true ⟨h1,h2⟩]; rfl

set_option maxHeartbeats 1000000 in
theorem rident_any (s : List Int) (w : World) (hz : Hid (∀ i,0 ≤ s.getD i 0 ∧ s.getD i 0 ≤ 255)) (hlen : (s.length : Int) ≤ 9223372036854775807) :
  Calls Tryz.prog 110 #[.string (strOfNums s)] w fun e w' => e = .returned (.bool (nident s)) ∧ w = w' := by
 have hsz := strOfNums_size s
 have HA : Hid (∀ k,(h : k < s.length) → (((strOfNums s)[k]'(by rw [hsz]; exact h)).toNat : Int) = s.getD k 0) := fun k h => str_at s hz.out k _
 generalize strOfNums s = S at hsz HA
 go_enter Tryz.func110,Tryz.ntmps110
 go_wp2
 go_loopw [3] (fun v wr => ∃ k : Nat,v = .int .i64 (k : Int) ∧ k ≤ s.length ∧ Hid (∀ j,j < k → lletter (s.getD j 0) = true) ∧ w = wr) (fun v _ => s.length - (intOf v).toNat)
 case atStart => exact ⟨0,rfl,by omega,fun j hj => absurd hj (by omega),rfl⟩
 case round =>
  obtain ⟨k,rfl,hk,HJ,rfl⟩ := hrel
  by_cases hkl : k < s.length
  ·have hat := HA.out k hkl
   have hcb := hz.out k
   obtain ⟨c,hc⟩ : ∃ c,c = s.getD k 0 := ⟨_,rfl⟩
   have HC : Hid (c = s.getD k 0) := hc
   rw [← hc] at hat hcb
   obtain ⟨c0,c255⟩ := hcb
   have q := fun W => rletter_any c W c0 c255
   clear hc
   by_cases hl : lletter c = true
   ·rw [hl] at q
    have Q : Hid _ := q
    have HJ2 : Hid (∀ j,j < k + 1 → lletter (s.getD j 0) = true) := fun j hj => by
     by_cases e : j = k
     ·rw [e,← HC.out]; exact hl
     ·exact HJ.out j (by omega)
    clear q hl HJ
    go_wp2_with fail
    refine Calls.mono (Q.out _) ?_
    rintro e w1 ⟨rfl,rfl⟩
    go_wp2
    go_roundw
    case rel => first | exact ⟨k + 1,by go_num,by omega,HJ2,by first | rfl | trivial⟩ | ((repeat apply Exists.intro); exact ⟨⟨k + 1,by go_num,by omega,HJ2,by first | rfl | trivial⟩,rfl⟩)
    case measure => simp [intOf]; omega
   ·have hl' : lletter c = false := by simpa using hl
    rw [hl'] at q
    have Q : Hid _ := q
    have E : Hid (nident s = false) := nident_bad s k hkl (by rw [← HC.out]; exact hl')
    clear q hl hl' HJ
    go_wp2_with fail
    refine Calls.mono (Q.out _) ?_
    rintro e w1 ⟨rfl,rfl⟩
    go_wp2
    go_ret
    exact ⟨by rw [E.out]; rfl,rfl⟩
  ·obtain rfl : k = s.length := by omega
   by_cases h0 : s.length = 0
   ·have E : Hid (nident s = false) := nident_big s (.inr h0)
    have h1 : ¬ (1 : Int) ≤ (s.length : Int) := by omega
    clear HJ h0
    go_wp2
    go_ret
    exact ⟨by rw [E.out]; rfl,rfl⟩
   ·have h1 : (1 : Int) ≤ (s.length : Int) := by omega
    by_cases h2 : s.length ≤ 200
    ·have h2' : (s.length : Int) ≤ 200 := by omega
     have hat := HA.out 0 (by omega)
     have hcb := hz.out 0
     have E : Hid (nident s = !lnumb (s.getD 0 0)) := nident_good s HJ.out (by omega) h2
     generalize s.getD 0 0 = c at hat hcb E
     obtain ⟨c0,c255⟩ := hcb
     have Q : Hid _ := fun W => rnumber_any c W c0 c255
     clear HJ
     go_wp2_with fail
     refine Calls.mono (Q.out _) ?_
     rintro e w1 ⟨rfl,rfl⟩
     go_wp2
     go_ret
     exact ⟨by rw [E.out]; rfl,rfl⟩
    ·have h2' : ¬ (s.length : Int) ≤ 200 := by omega
     have E : Hid (nident s = false) := nident_big s (.inl (by omega))
     clear HJ
     go_wp2
     go_ret
     exact ⟨by rw [E.out]; rfl,rfl⟩

theorem run_tail (s : List Int) (k : Nat) (hk : k ≤ s.length) (ii : Int) (hi : ii = (k : Int)) : ∀ W,(Instr.slice 9 (.string (strOfNums s)) (some (.int .i64 ii)) none none).run Tryz.prog W = .ok (.string (strOfNums (s.drop k))) W := fun W => by
 rw [run_cut_to (strOfNums s) k ii hi (by rw [strOfNums_size]; exact hk) W,str_cut,strOfNums_size,List.take_of_length_le (by simp)]

end Go.Proofs.YtlekfcehmlepkaaGreatDoor

namespace Go.Proofs.YtlekfcehmlepkaaGreatDoor
open Go.RowKit
set_option linter.unusedVariables false

def DigJ (N n : Int) (D : List Int) (f : Nat) : Prop :=
 (D = [] ∧ n = N ∧ f = 20) ∨ (D ≠ [] ∧ n = 0 ∧ qdg 20 N = D) ∨ (D ≠ [] ∧ 0 < n ∧ qdg 20 N = qdg f n ++ D)

theorem DigJ.step {N n : Int} {D : List Int} {f : Nat} (h : DigJ N n D (f + 1)) (hn : 0 ≤ n) (hgo : 0 < n ∨ D = []) : DigJ N (n / 10) ((48 + n % 10) :: D) f := by
 have key : ∀ t,qdg 20 N = qdg (f + 1) n ++ t → DigJ N (n / 10) ((48 + n % 10) :: t) f := by
  intro t e
  by_cases k : n < 10
  ·refine .inr (.inl ⟨by simp,by omega,?_⟩)
   rw [e,qdg_ten f n k,show n % 10 = n by omega]
   rfl
  ·refine .inr (.inr ⟨by simp,by omega,?_⟩)
   rw [e,qdg_more f n (by omega)]
   simp
 rcases h with ⟨rfl,rfl,h⟩ | ⟨h1,h2,_⟩ | ⟨_,h2,h3⟩
 ·exact key [] (by rw [h]; simp)
 ·rcases hgo with h | h
  ·omega
  ·exact absurd h h1
 ·exact key D h3

set_option maxHeartbeats 1000000 in
theorem rdig_any (N : Int) (w : World) (h0 : 0 ≤ N) (h1 : N ≤ 18446744073709551615) :
  Calls Tryz.prog 53 #[.int .u64 N] w fun e w' => e = .returned (.string (strOfNums (qdg 20 N))) ∧ w = w' := by
 go_enter Tryz.func53,Tryz.ntmps53
 go_wp2
 go_loopw [0,3] (fun m v wr => ∃ (n : Int) (D : List Int) (f : Nat),m = .int .u64 n ∧ v = .string (strOfNums D) ∧ 0 ≤ n ∧ n ≤ 18446744073709551615 ∧ D.length + f ≤ 20 ∧ Hid (n < 10 ^ f) ∧ Hid (DigJ N n D f) ∧ wr = w)
  (fun m v _ => (intOf m).toNat + (match v with | .string b => if b.size = 0 then 1 else 0 | _ => 0))
 case atStart => exact ⟨N,[],20,rfl,rfl,h0,h1,by simp,(by show N < 10 ^ 20; omega),.inl ⟨rfl,rfl,rfl⟩,rfl⟩
 case round =>
  obtain ⟨n,D,f,rfl,rfl,n0,n1,hD,HF,HJ,rfl⟩ := hrel
  by_cases hgo : 0 < n ∨ D = []
  ·obtain ⟨g,rfl⟩ : ∃ g,f = g + 1 := by
    cases f with
    | zero =>
     have hf := HF.out
     simp at hf
     rcases HJ.out with ⟨_,_,h⟩ | ⟨h,h2,_⟩ | ⟨_,h2,_⟩
     ·omega
     ·rcases hgo with h' | h'
      ·omega
      ·exact absurd h' h
     ·omega
    | succ g => exact ⟨g,rfl⟩
   have HF' : Hid (n / 10 < 10 ^ g) := by show _ < _; have := HF.out; rw [Int.pow_succ] at this; omega
   have HJ' : Hid (DigJ N (n / 10) ((48 + n % 10) :: D) g) := HJ.out.step n0 hgo
   have henc := enc_1 (48 + n % 10) (by omega) (by omega)
   have hadd := fun W => run_add W [48 + n % 10] D (by simp only [List.length_cons,List.length_nil]; omega)
   have hs1 := strOfNums_size ((48 + n % 10) :: D)
   simp only [List.cons_append,List.nil_append,List.length_cons] at hadd hs1
   have HS1 : Hid _ := hs1
   clear HF HJ hs1
   by_cases hn : 0 < n
   ·clear hgo
    have HM : Hid ((intOf (.int .u64 (n / 10))).toNat < (intOf (.int .u64 n)).toNat) := by show (n / 10).toNat < n.toNat; omega
    go_wp2
    go_roundw
    case rel => exact ⟨n / 10,_,g,rfl,rfl,by omega,by omega,by simp only [List.length_cons]; omega,HF',HJ',by first | rfl | trivial⟩
    case measure =>
     have := HM.out; have e := HS1.out
     simp only [e]
     simp at this ⊢
     omega
   ·have hD0 : D = [] := by rcases hgo with h | h; exact absurd h hn; exact h
    subst hD0
    obtain rfl : n = 0 := by omega
    have hne : ((strOfNums []).toList == []) = true := by rw [str_list]; rfl
    have hs0 : (strOfNums []).size = 0 := strOfNums_size []
    clear hgo
    have e48 : Utf8.encode 48 ++ strOfNums [] = strOfNums [48] := by rw [enc_1 48 (by omega) (by omega),str_app]; rfl
    have E48 : Hid _ := e48
    have s48 : (strOfNums [48]).size = 1 := strOfNums_size [48]
    clear e48 henc hadd HS1
    go_wp2
    rw [E48.out]
    go_roundw
    case rel => exact ⟨0,[48],g,rfl,rfl,by omega,by omega,by simp only [List.length_cons,List.length_nil] at hD ⊢; omega,HF',HJ',by first | rfl | trivial⟩
    case measure => simp [s48,hs0]
  ·have hn : n = 0 := by omega
   subst hn
   have E : Hid (qdg 20 N = D) := by
    rcases HJ.out with ⟨h,_,_⟩ | ⟨_,_,h⟩ | ⟨_,h,_⟩
    ·exact absurd (Or.inr h) hgo
    ·exact h
    ·omega
   have hne : ((strOfNums D).toList == []) = false := by
    cases D with
    | nil => exact absurd (Or.inr rfl) hgo
    | cons c r => exact str_ne c r
   clear HJ HF hgo
   go_wp2
   go_ret
   exact ⟨by rw [E.out]; rfl,rfl⟩

end Go.Proofs.YtlekfcehmlepkaaGreatDoor
