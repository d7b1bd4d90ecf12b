/- Put together by a program out of these texts of mine: NPa, NPb, NPc. -/
import Derived.Lib.OthersKept
import Derived.Test.YtlekfcehmlepkaaGreatDoorBunD5
import Derived.Test.YtlekfcehmlepkaaGreatDoorBunD9

namespace Go.Proofs.YtlekfcehmlepkaaGreatDoor
open Go.RowKit
set_option linter.unusedVariables false
set_option linter.unusedSimpArgs false

def NTab (_ : World) : Prop := True

theorem dec_wide (S : ByteArray) (p : Nat) (h : p < S.size) (ha : 128 ≤ (S.get! (p + 0)).toNat) : p + (Utf8.decode S p).2 ≤ S.size ∧ ∀ j,j < (Utf8.decode S p).2 → 128 ≤ (S.get! (p + j)).toNat := by
 have one : ∀ j,j < 1 → 128 ≤ (S.get! (p + j)).toNat := fun j hj => by rw [show j = 0 by omega]; exact ha
 have hn : ¬ (S.get! (p + 0)).toNat < 128 := by omega
 simp only [Utf8.decode,hn,if_false]
 split
 ·rename_i h1
  simp only [Bool.and_eq_true,decide_eq_true_eq,beq_iff_eq] at h1
  split
  ·refine ⟨by show p + 2 ≤ _; omega,fun j hj => ?_⟩
   have hj : j < 2 := hj
   rcases (show j = 0 ∨ j = 1 by omega) with rfl | rfl <;> omega
  ·exact ⟨by show p + 1 ≤ _; omega,one⟩
 ·split
  ·rename_i h1
   simp only [Bool.and_eq_true,decide_eq_true_eq,beq_iff_eq] at h1
   split
   ·refine ⟨by show p + 3 ≤ _; omega,fun j hj => ?_⟩
    have hj : j < 3 := hj
    rcases (show j = 0 ∨ j = 1 ∨ j = 2 by omega) with rfl | rfl | rfl <;> omega
   ·exact ⟨by show p + 1 ≤ _; omega,one⟩
  ·split
   ·rename_i h1
    simp only [Bool.and_eq_true,decide_eq_true_eq,beq_iff_eq] at h1
    split
    ·refine ⟨by show p + 4 ≤ _; omega,fun j hj => ?_⟩
     have hj : j < 4 := hj
     rcases (show j = 0 ∨ j = 1 ∨ j = 2 ∨ j = 3 by omega) with rfl | rfl | rfl | rfl <;> omega
    ·exact ⟨by show p + 1 ≤ _; omega,one⟩
   ·exact ⟨by show p + 1 ≤ _; omega,one⟩

theorem dec_at (s : List Int) (hz : ∀ i,0 ≤ s.getD i 0 ∧ s.getD i 0 ≤ 255) (k : Nat) (hk : k < s.length) :
  (s.getD k 0 < 128 ∧ ((Utf8.decode (strOfNums s) k).1 : Int) = s.getD k 0 ∧ (Utf8.decode (strOfNums s) k).2 = 1) ∨
  (128 ≤ s.getD k 0 ∧ 128 ≤ ((Utf8.decode (strOfNums s) k).1 : Int) ∧ ((Utf8.decode (strOfNums s) k).1 : Int) ≤ 2147483647 ∧ 1 ≤ (Utf8.decode (strOfNums s) k).2 ∧ k + (Utf8.decode (strOfNums s) k).2 ≤ s.length ∧ ∀ j,k ≤ j → j < k + (Utf8.decode (strOfNums s) k).2 → 128 ≤ s.getD j 0) := by
 have hsz := strOfNums_size s
 have hk' : k < (strOfNums s).size := by rw [hsz]; exact hk
 have hat := str_at s hz k hk'
 by_cases ha : ((strOfNums s)[k]'hk').toNat < 128
 ·left
  rw [decode_ascii _ k hk' ha]
  exact ⟨by omega,hat,rfl⟩
 ·right
  obtain ⟨h1,h2⟩ := decode_high _ k hk' (by omega)
  have h3 := decode_le (strOfNums s) k
  obtain ⟨h4,h5⟩ := dec_wide _ k hk' (by rw [get_at _ k hk']; omega)
  rw [hsz] at h4
  refine ⟨by omega,by omega,by omega,h2,h4,fun j hj1 hj2 => ?_⟩
  have := h5 (j - k) (by omega)
  rw [show k + (j - k) = j by omega] at this
  have hj' : j < (strOfNums s).size := by omega
  have e := get_at (strOfNums s) j hj'
  rw [Nat.add_zero] at e
  rw [e] at this
  have := str_at s hz j hj'
  omega

def nlet (c : Int) : Bool := decide ((97 ≤ c ∧ c ≤ 122) ∨ (65 ≤ c ∧ c ≤ 90) ∨ c = 95)

def nok (s : List Int) (i : Nat) : Bool := nlet (s.getD i 0) || (lnumb (s.getD i 0) && decide (0 < i))

theorem nident_nok (s : List Int) (h1 : 1 ≤ s.length) (h2 : s.length ≤ 200) : nident s = decide (∀ i,i < s.length → nok s i = true) := by
 rw [Bool.eq_iff_iff,decide_eq_true_eq]
 unfold nident
 simp only [Bool.and_eq_true,List.all_eq_true,decide_eq_true_eq,Bool.not_eq_true']
 constructor
 ·rintro ⟨⟨ha,_⟩,hb⟩ i hi
  have := ha (s.getD i 0) (by rw [show s.getD i 0 = s[i] by simp [List.getD,hi]]; exact List.getElem_mem hi)
  unfold lletter at this
  unfold nok nlet lnumb
  simp only [decide_eq_true_eq] at this
  simp only [Bool.or_eq_true,Bool.and_eq_true,decide_eq_true_eq]
  by_cases h0 : i = 0
  ·subst h0
   unfold lnumb at hb
   rw [decide_eq_false_iff_not] at hb
   omega
  ·omega
 ·intro h
  refine ⟨⟨fun c hc => ?_,⟨h1,h2⟩⟩,?_⟩
  ·obtain ⟨i,hi,rfl⟩ := List.getElem_of_mem hc
   have := h i hi
   rw [show s[i] = s.getD i 0 by simp [List.getD,hi]]
   unfold nok nlet lnumb at this
   unfold lletter
   simp only [Bool.or_eq_true,Bool.and_eq_true,decide_eq_true_eq] at this ⊢
   omega
  ·have := h 0 (by omega)
   unfold nok nlet at this
   unfold lnumb at this ⊢
   rw [decide_eq_false_iff_not]
   simp only [Bool.or_eq_true,Bool.and_eq_true,decide_eq_true_eq] at this
   omega

def nsml (c : Int) : Bool := decide (97 ≤ c ∧ c ≤ 122)

set_option maxHeartbeats 1000000 in
theorem psmall_any (c : Int) (w : World) (h0 : 0 ≤ c) (h1 : c ≤ 2147483647) :
  Calls Tryz.prog 178 #[.int .i32 c] w fun e w' => e = .returned (.bool (nsml c)) ∧ w = w' := by
 rcases (show (97 ≤ c ∧ c ≤ 122) ∨ (c < 97) ∨ (122 < c) by omega) with h | h | h
 ·have E : Hid (nsml c = true) := decide_eq_true (by omega)
  obtain ⟨p1,p2⟩ := h
  go_enter Tryz.func178,Tryz.ntmps178
  go_wp2
  go_ret
  exact ⟨by rw [E.out]; first | rfl | exact ret_bool (by simp; omega),rfl⟩
 ·have E : Hid (nsml c = false) := decide_eq_false (by omega)
  go_enter Tryz.func178,Tryz.ntmps178
  go_wp2
  go_ret
  exact ⟨by rw [E.out]; first | rfl | exact ret_bool (by simp; omega),rfl⟩
 ·have E : Hid (nsml c = false) := decide_eq_false (by omega)
  have p1 : 97 ≤ c := by omega
  go_enter Tryz.func178,Tryz.ntmps178
  go_wp2
  go_ret
  exact ⟨by rw [E.out]; first | rfl | exact ret_bool (by simp; omega),rfl⟩

set_option maxHeartbeats 1000000 in
theorem pndigit_any (c : Int) (w : World) (h0 : 0 ≤ c) (h1 : c ≤ 2147483647) :
  Calls Tryz.prog 157 #[.int .i32 c] w fun e w' => e = .returned (.bool (lnumb c)) ∧ w = w' := by
 rcases (show (48 ≤ c ∧ c ≤ 57) ∨ (c < 48) ∨ (57 < c) by omega) with h | h | h
 ·have E : Hid (lnumb c = true) := decide_eq_true (by omega)
  obtain ⟨p1,p2⟩ := h
  go_enter Tryz.func157,Tryz.ntmps157
  go_wp2
  go_ret
  exact ⟨by rw [E.out]; first | rfl | exact ret_bool (by simp; omega),rfl⟩
 ·have E : Hid (lnumb c = false) := decide_eq_false (by omega)
  go_enter Tryz.func157,Tryz.ntmps157
  go_wp2
  go_ret
  exact ⟨by rw [E.out]; first | rfl | exact ret_bool (by simp; omega),rfl⟩
 ·have E : Hid (lnumb c = false) := decide_eq_false (by omega)
  have p1 : 48 ≤ c := by omega
  go_enter Tryz.func157,Tryz.ntmps157
  go_wp2
  go_ret
  exact ⟨by rw [E.out]; first | rfl | exact ret_bool (by simp; omega),rfl⟩

set_option maxHeartbeats 1000000 in
theorem pnlet_any (c : Int) (w : World) (h0 : 0 ≤ c) (h1 : c ≤ 2147483647) :
  Calls Tryz.prog 156 #[.int .i32 c] w fun e w' => e = .returned (.bool (nlet c)) ∧ w = w' := by
 by_cases k95 : c = 95
 ·have E : Hid (nlet c = true) := decide_eq_true (by omega)
  subst k95
  go_enter Tryz.func156,Tryz.ntmps156
  go_wp2
  go_ret
  exact ⟨by rw [E.out]; first | rfl | exact ret_bool (by simp; omega),rfl⟩
 have e95 : (c == 95) = false := by simpa using k95
 have q := fun W => psmall_any c W h0 h1
 rcases (show (97 ≤ c ∧ c ≤ 122) ∨ (65 ≤ c ∧ c ≤ 90) ∨ (c < 65) ∨ (90 < c ∧ c < 97) ∨ (122 < c) by omega) with h | h | h | h | h
 ·have E : Hid (nlet c = true) := decide_eq_true (by omega)
  rw [show nsml c = true from decide_eq_true h] at q
  have Q : Hid _ := q
  clear q h k95
  go_enter Tryz.func156,Tryz.ntmps156
  go_wp2_with fail
  refine Calls.mono (Q.out _) ?_
  rintro e w1 ⟨rfl,rfl⟩
  go_wp2
  go_ret
  exact ⟨by rw [E.out]; first | rfl | exact ret_bool (by simp; omega),rfl⟩
 ·have E : Hid (nlet c = true) := decide_eq_true (by omega)
  rw [show nsml c = false from decide_eq_false (by omega)] at q
  obtain ⟨p1,p2⟩ := h
  have Q : Hid _ := q
  clear q k95
  go_enter Tryz.func156,Tryz.ntmps156
  go_wp2_with fail
  refine Calls.mono (Q.out _) ?_
  rintro e w1 ⟨rfl,rfl⟩
  go_wp2
  go_ret
  exact ⟨by rw [E.out]; first | rfl | exact ret_bool (by simp; omega),rfl⟩
 ·have E : Hid (nlet c = false) := decide_eq_false (by omega)
  rw [show nsml c = false from decide_eq_false (by omega)] at q
  have Q : Hid _ := q
  clear q k95
  go_enter Tryz.func156,Tryz.ntmps156
  go_wp2_with fail
  refine Calls.mono (Q.out _) ?_
  rintro e w1 ⟨rfl,rfl⟩
  go_wp2
  go_ret
  exact ⟨by rw [E.out]; first | rfl | exact ret_bool (by simp; omega),rfl⟩
 ·have E : Hid (nlet c = false) := decide_eq_false (by omega)
  rw [show nsml c = false from decide_eq_false (by omega)] at q
  have p1 : 65 ≤ c := by omega
  have p2 : 90 < c := h.1
  have Q : Hid _ := q
  clear q k95 h
  go_enter Tryz.func156,Tryz.ntmps156
  go_wp2_with fail
  refine Calls.mono (Q.out _) ?_
  rintro e w1 ⟨rfl,rfl⟩
  go_wp2
  go_ret
  exact ⟨by rw [E.out]; first | rfl | exact ret_bool (by simp; omega),rfl⟩
 ·have E : Hid (nlet c = false) := decide_eq_false (by omega)
  rw [show nsml c = false from decide_eq_false (by omega)] at q
  have p1 : 65 ≤ c := by omega
  have p2 : 90 < c := by omega
  have Q : Hid _ := q
  clear q k95 h
  go_enter Tryz.func156,Tryz.ntmps156
  go_wp2_with fail
  refine Calls.mono (Q.out _) ?_
  rintro e w1 ⟨rfl,rfl⟩
  go_wp2
  go_ret
  exact ⟨by rw [E.out]; first | rfl | exact ret_bool (by simp; omega),rfl⟩

set_option maxHeartbeats 1000000 in
theorem pnrun_any (s : List Int) (w : World) (hz : Hid (∀ i,0 ≤ s.getD i 0 ∧ s.getD i 0 ≤ 255)) (hlen : (s.length : Int) ≤ 9223372036854775807) :
  Calls Tryz.prog 115 #[.string (strOfNums s)] w fun e w' => ∃ m : Nat,e = .returned (.int .i64 (m : Int)) ∧ m ≤ s.length ∧ decide (∀ i,i < s.length → nok s i = true) = decide (m = s.length) ∧ Below w.heap.size w w' := by
 have hsz := strOfNums_size s
 have HD : Hid _ := dec_at s hz.out
 generalize strOfNums s = S at hsz HD
 go_enter Tryz.func115,Tryz.ntmps115
 go_wp2
 refine wp_scope_straight ?_
 go_wp2
 go_step3
 rename_i hK
 refine hK _ _ ?_
 clear hK
 go_wp2
 go_loopw [3] (fun v wr => ∃ k : Nat,v = .int .i64 (s.length : Int) ∧ wr = w.iter S k ∧ k ≤ s.length ∧ Hid (∀ j,j < k → nok s j = true)) (fun _ wr => s.length - wr.iterPos w.heap.size)
 case atStart => exact ⟨0,rfl,rfl,by omega,fun j hj => absurd hj (by omega)⟩
 case round =>
  obtain ⟨k,rfl,rfl,hk,HJ⟩ := hrel
  by_cases hkl : k < s.length
  ·have hnx : ∀ ty,(Instr.next (.pointer (some ⟨w.heap.size,0,none⟩)) true ty).run Tryz.prog (w.iter S k) = _ := fun ty => run_next_any w S k ty (by omega)
   have hc0 := (hz.out k).1
   have hc1 := (hz.out k).2
   rcases HD.out k hkl with ⟨h1,h2,h3⟩ | ⟨h1,h2,h3,h4,h5,h6⟩
   ·rw [h2,h3] at hnx
    clear h2 h3
    have hNK : nok s k = (nlet (s.getD k 0) || (lnumb (s.getD k 0) && decide (0 < k))) := rfl
    generalize s.getD k 0 = c at hnx hc0 hc1 hNK h1
    have q1 := fun W => pnlet_any c W hc0 (by omega)
    have q2 := fun W => pndigit_any c W hc0 (by omega)
    have c31 : c ≤ 2147483647 := by omega
    cases hl : nlet c with
    | true =>
     rw [hl] at q1 hNK
     rw [Bool.true_or] at hNK
     have Q1 : Hid _ := q1
     have HJ2 : Hid (∀ j,j < k + 1 → nok s j = true) := fun j hj => by
      by_cases e : j = k
      ·rw [e]; exact hNK
      ·exact HJ.out j (by omega)
     clear q1 q2 hl hNK HJ
     go_wp2_with fail
     refine Calls.mono (Q1.out _) ?_
     rintro e w1 ⟨rfl,rfl⟩
     go_wp2
     go_roundw
     case rel => first | exact ⟨k + 1,rfl,rfl,by omega,HJ2⟩ | ((repeat apply Exists.intro); exact ⟨⟨k + 1,rfl,rfl,by omega,HJ2⟩,rfl⟩)
     case measure => first | (simp; done) | (simp; omega)
    | false =>
     rw [hl,Bool.false_or] at hNK
     rw [hl] at q1
     have Q1 : Hid _ := q1
     cases hd : lnumb c with
     | true =>
      rw [hd,Bool.true_and] at hNK
      rw [hd] at q2
      have Q2 : Hid _ := q2
      by_cases k0 : 0 < k
      ·rw [decide_eq_true k0] at hNK
       have kk : (0 : Int) < (k : Int) := by omega
       have HJ2 : Hid (∀ j,j < k + 1 → nok s j = true) := fun j hj => by
        by_cases e : j = k
        ·rw [e]; exact hNK
        ·exact HJ.out j (by omega)
       clear q1 q2 hl hd hNK HJ
       go_wp2_with fail
       refine Calls.mono (Q1.out _) ?_
       rintro e w1 ⟨rfl,rfl⟩
       go_wp2_with fail
       refine Calls.mono (Q2.out _) ?_
       rintro e w1 ⟨rfl,rfl⟩
       go_wp2
       go_roundw
       case rel => first | exact ⟨k + 1,rfl,rfl,by omega,HJ2⟩ | ((repeat apply Exists.intro); exact ⟨⟨k + 1,rfl,rfl,by omega,HJ2⟩,rfl⟩)
       case measure => first | (simp; done) | (simp; omega)
      ·rw [decide_eq_false k0] at hNK
       obtain rfl : k = 0 := by omega
       have E : Hid (decide (∀ i,i < s.length → nok s i = true) = decide (0 = s.length)) := by
        show _ = _
        rw [decide_eq_false (p := 0 = s.length) (by omega),decide_eq_false (fun h => by have := h 0 hkl; rw [hNK] at this; simp at this)]
       clear q1 q2 hl hd hNK HJ
       go_wp2_with fail
       refine Calls.mono (Q1.out _) ?_
       rintro e w1 ⟨rfl,rfl⟩
       go_wp2_with fail
       refine Calls.mono (Q2.out _) ?_
       rintro e w1 ⟨rfl,rfl⟩
       go_wp2
       simp only [Exit.noGoto]
       go_ret
       exact ⟨0,rfl,by omega,E.out,(Below.refl _ _).alloc (Nat.le_refl _) _⟩
     | false =>
      rw [hd,Bool.false_and] at hNK
      rw [hd] at q2
      have Q2 : Hid _ := q2
      have E : Hid (decide (∀ i,i < s.length → nok s i = true) = decide (k = s.length)) := by
       show _ = _
       rw [decide_eq_false (p := k = s.length) (by omega),decide_eq_false (fun h => by have := h k hkl; rw [hNK] at this; simp at this)]
      clear q1 q2 hl hd hNK HJ
      go_wp2_with fail
      refine Calls.mono (Q1.out _) ?_
      rintro e w1 ⟨rfl,rfl⟩
      go_wp2_with fail
      refine Calls.mono (Q2.out _) ?_
      rintro e w1 ⟨rfl,rfl⟩
      go_wp2
      simp only [Exit.noGoto]
      go_ret
      exact ⟨k,rfl,by omega,E.out,(Below.refl _ _).alloc (Nat.le_refl _) _⟩
   ·generalize ((Utf8.decode S k).1 : Int) = c at hnx h2 h3
    generalize (Utf8.decode S k).2 = d at hnx h4 h5 h6
    have q1 := fun W => pnlet_any c W (by omega) (by omega)
    have q2 := fun W => pndigit_any c W (by omega) (by omega)
    rw [show nlet c = false from decide_eq_false (by omega)] at q1
    rw [show lnumb c = false from decide_eq_false (by omega)] at q2
    have hNK : nok s k = false := by
     unfold nok
     rw [show nlet (s.getD k 0) = false from decide_eq_false (by omega),show lnumb (s.getD k 0) = false from decide_eq_false (by omega)]
     rfl
    have E : Hid (decide (∀ i,i < s.length → nok s i = true) = decide (k = s.length)) := by
     show _ = _
     rw [decide_eq_false (p := k = s.length) (by omega),decide_eq_false (fun h => by have := h k hkl; rw [hNK] at this; simp at this)]
    have Q1 : Hid _ := q1
    have Q2 : Hid _ := q2
    clear q1 q2 hNK HJ h6 h1 h4 h5
    go_wp2_with fail
    refine Calls.mono (Q1.out _) ?_
    rintro e w1 ⟨rfl,rfl⟩
    go_wp2_with fail
    refine Calls.mono (Q2.out _) ?_
    rintro e w1 ⟨rfl,rfl⟩
    go_wp2
    simp only [Exit.noGoto]
    go_ret
    exact ⟨k,rfl,by omega,E.out,(Below.refl _ _).alloc (Nat.le_refl _) _⟩
  ·obtain rfl : k = s.length := by omega
   have hnx : ∀ ty,(Instr.next (.pointer (some ⟨w.heap.size,0,none⟩)) true ty).run Tryz.prog (w.iter S s.length) = _ := fun ty => run_next_end w S s.length ty (by omega)
   have E : Hid (decide (∀ i,i < s.length → nok s i = true) = true) := decide_eq_true HJ.out
   clear HJ
   go_wp2
   simp only [Exit.noGoto]
   go_ret
   exact ⟨s.length,rfl,by omega,by rw [E.out,decide_eq_true rfl],(Below.refl _ _).alloc (Nat.le_refl _) _⟩

set_option maxHeartbeats 1000000 in
theorem pident_any (s : List Int) (w : World) (hT : Hid (NTab w)) (hz : Hid (∀ i,0 ≤ s.getD i 0 ∧ s.getD i 0 ≤ 255)) (hlen : (s.length : Int) ≤ 9223372036854775807) :
  Calls Tryz.prog 69 #[.string (strOfNums s)] w fun e w' => e = .returned (.bool (nident s)) ∧ Below w.heap.size w w' := by
 have hsz := strOfNums_size s
 by_cases h0 : s = []
 ·have hne : ((strOfNums s).toList == []) = true := by rw [h0,str_list]; rfl
  have E : Hid (nident s = false) := nident_big s (.inr (by rw [h0]; rfl))
  generalize strOfNums s = S at hsz hne
  go_enter Tryz.func69,Tryz.ntmps69
  go_wp2
  go_ret
  exact ⟨by rw [E.out]; first | rfl | exact ret_bool (by simp [hne]),Below.refl _ _⟩
 ·have hne : ((strOfNums s).toList == []) = false := by
   cases s with
   | nil => exact absurd rfl h0
   | cons c r => exact str_ne c r
  have hl : 0 < s.length := List.length_pos_iff.2 h0
  by_cases h2 : s.length ≤ 200
  ·have h2' : (s.length : Int) ≤ 200 := by omega
   have E := nident_nok s hl h2
   have q := fun W => pnrun_any s W hz hlen
   rw [← E] at q
   have Q : Hid _ := q
   clear q E
   generalize nident s = b at Q
   generalize strOfNums s = S at hsz hne Q
   go_enter Tryz.func69,Tryz.ntmps69
   go_wp2_with fail
   refine Calls.mono (Q.out _) ?_
   rintro e w1 ⟨m,rfl,hm,hb,hB⟩
   by_cases e : m = s.length
   ·subst e
    rw [decide_eq_true rfl] at hb
    have heq : ((s.length : Int) == (s.length : Int)) = true := by simp
    go_wp2
    go_ret
    exact ⟨by rw [hb]; first | rfl | exact ret_bool (by simp),hB⟩
   ·rw [decide_eq_false e] at hb
    have heq : ((m : Int) == (s.length : Int)) = false := by simp; omega
    go_wp2
    go_ret
    exact ⟨by rw [hb]; first | rfl | exact ret_bool (by simp; omega),hB⟩
  ·have h2' : ¬ (s.length : Int) ≤ 200 := by omega
   have E : Hid (nident s = false) := nident_big s (.inl (by omega))
   generalize strOfNums s = S at hsz hne
   go_enter Tryz.func69,Tryz.ntmps69
   go_wp2
   go_ret
   exact ⟨by rw [E.out]; first | rfl | exact ret_bool (by simp [hne]; omega),Below.refl _ _⟩

theorem nsp_skip (s : List Int) (f : Nat) : ∀ (d p : Nat),f ≤ p → p + d ≤ s.length → (∀ j,p ≤ j → j < p + d → s.getD j 0 ≠ 46) → nsp (lpc s f p) (s.drop p) = nsp (lpc s f (p + d)) (s.drop (p + d))
 | 0,p,_,_,_ => rfl
 | d + 1,p,h1,h2,h3 => by
  rw [drop_at (show p < s.length by omega),nsp,if_neg (h3 p (by omega) (by omega)),← lpc_more s f p h1 (by omega),nsp_skip s f d (p + 1) (by omega) (by omega) (fun j a b => h3 j (by omega) (by omega))]
  rw [show p + 1 + d = p + (d + 1) by omega]

theorem lpc_tail (s : List Int) (i : Nat) : lpc s i s.length = s.drop i := by unfold lpc; rw [List.take_length]

set_option maxHeartbeats 2000000 in
theorem pfull_any (s : List Int) (w : World) (hT : Hid (NTab w)) (hz : Hid (∀ i,0 ≤ s.getD i 0 ∧ s.getD i 0 ≤ 255)) (hlen : (s.length : Int) ≤ 100000) :
  Calls Tryz.prog 71 #[.string (strOfNums s)] w fun e w' => e = .returned (.bool (nfull s)) ∧ Below w.heap.size w w' := by
 by_cases hb : 1000 < s.length
 ·have hsz := strOfNums_size s
  have hb' : (1000 : Int) < (s.length : Int) := by omega
  have E : Hid (nfull s = false) := by show _ = _; unfold nfull; rw [decide_eq_false (by omega)]; rfl
  generalize strOfNums s = S at hsz
  go_enter Tryz.func71,Tryz.ntmps71
  go_wp2
  go_ret
  exact ⟨by rw [E.out]; rfl,Below.refl _ _⟩
 ·have hb' : ¬ (1000 : Int) < (s.length : Int) := by omega
  obtain ⟨R,hR⟩ : ∃ R,R = nfull s := ⟨_,rfl⟩
  have HR : Hid (R = (nsp (lpc s 0 0) (s.drop 0)).all nident) := by show _ = _; rw [hR]; unfold nfull nparts; rw [decide_eq_true (by omega),lpc_none,List.drop_zero]; rfl
  obtain ⟨X,hX⟩ : ∃ X,X = strOfNums s := ⟨_,rfl⟩
  have hsz : X.size = s.length := by rw [hX]; exact strOfNums_size s
  have HP : Hid (∀ i k,i ≤ k → k ≤ s.length → ∀ W,(Instr.slice 9 (.string X) (some (.int .i64 (i : Int))) (some (.int .i64 (k : Int))) none).run Tryz.prog W = .ok (.string (strOfNums (lpc s i k))) W) := fun i k h1 h2 => by subst hX; exact run_piece s i k h1 h2
  have HTl : Hid (∀ i,i ≤ s.length → ∀ W,(Instr.slice 9 (.string X) (some (.int .i64 (i : Int))) none none).run Tryz.prog W = .ok (.string (strOfNums (s.drop i))) W) := fun i h1 => by subst hX; exact run_tail s i h1 _ rfl
  have HD : Hid _ := dec_at s hz.out
  rw [← hX] at HD
  rw [← hR,← hX]
  have HBy : Hid (byts s) := mem_bd hz.out
  clear hX hR
  go_enter Tryz.func71,Tryz.ntmps71
  go_wp2
  go_loopw [3] (fun v wr => ∃ p f : Nat,v = .int .i64 (f : Int) ∧ wr.heap[w.heap.size]? = some (.stringIter X p) ∧ f ≤ p ∧ p ≤ s.length ∧ Hid (R = (nsp (lpc s f p) (s.drop p)).all nident) ∧ Hid (Below w.heap.size w wr)) (fun _ wr => s.length - wr.iterPos w.heap.size)
  case atStart => exact ⟨0,0,rfl,by have := World.iter_heap w X 0; simpa using this,by omega,by omega,HR,(Below.refl _ _).alloc (Nat.le_refl _) _⟩
  case round =>
   obtain ⟨p,f,rfl,hit,hfp,hp,HJ,HB⟩ := hrel
   have hsz1 : w.heap.size < wr.heap.size := (Array.getElem?_eq_some_iff.1 hit).1
   by_cases hpl : p < s.length
   ·have hnx : ∀ ty,(Instr.next (.pointer (some ⟨w.heap.size,0,none⟩)) true ty).run Tryz.prog wr = _ := fun ty => Lib.run_next_any_at wr w.heap.size X p ty hit (by omega)
    have HC := HD.out p hpl
    have HI2 := fun q => Lib.iterAt_heap wr w.heap.size X p q hit
    have HB2 := fun q => Lib.below_iterAt HB.out (Nat.le_refl _) X q
    have hc0 := (hz.out p).1
    have hc1 := (hz.out p).2
    by_cases h46 : s.getD p 0 = 46
    ·have hc : ((Utf8.decode X p).1 : Int) = 46 ∧ (Utf8.decode X p).2 = 1 := by
      rcases HC with ⟨_,h2,h3⟩ | ⟨h1,_⟩
      ·exact ⟨by omega,h3⟩
      ·omega
     rw [hc.1,hc.2] at hnx
     have hI := HI2 (p + 1)
     have HB3 : Hid _ := HB2 (p + 1)
     have hcut := HP.out f p hfp hp
     have HJ' := HJ.out
     rw [drop_at hpl,nsp,if_pos h46,List.all_cons] at HJ'
     have hll : (lpc s f p).length ≤ s.length := by unfold lpc; simp; omega
     have q := fun W => pident_any (lpc s f p) W trivial (getD_bd (lpc_bd s f p HBy.out)) (by omega)
     obtain ⟨L,hL⟩ : ∃ L,L = strOfNums (lpc s f p) := ⟨_,rfl⟩
     rw [← hL] at hcut q
     clear hL
     have hio : (wr.iterAt w.heap.size X (p + 1)).iterPos w.heap.size = p + 1 := by simp [World.iterPos,hI]
     obtain ⟨wi,hwi⟩ : ∃ wi,wi = wr.iterAt w.heap.size X (p + 1) := ⟨_,rfl⟩
     rw [← hwi] at hnx hI HB3
     have hsz2 : w.heap.size < wi.heap.size := (Array.getElem?_eq_some_iff.1 hI).1
     clear hc HC HI2 HB2 hwi h46 HJ hio
     cases hid : nident (lpc s f p) with
     | true =>
      rw [hid,Bool.true_and] at HJ'
      rw [hid] at q
      have Q : Hid _ := q
      have HJ2 : Hid (R = (nsp (lpc s (p + 1) (p + 1)) (s.drop (p + 1))).all nident) := by show _ = _; rw [HJ',lpc_none]
      clear q HJ' hid
      go_wp2_with fail
      refine Calls.mono (Q.out _) ?_
      rintro e w1 ⟨rfl,hB1⟩
      have hI1 : w1.heap[w.heap.size]? = some (.stringIter X (p + 1)) := (hB1.block _ hsz2).trans hI
      have HB4 : Hid (Below w.heap.size w w1) := HB3.out.trans (hB1.mono HB3.out.size)
      go_wp2
      go_roundw
      case rel => first | exact ⟨p + 1,p + 1,by go_num,hI1,by omega,by omega,HJ2,HB4⟩ | ((repeat apply Exists.intro); exact ⟨⟨p + 1,p + 1,by go_num,hI1,by omega,by omega,HJ2,HB4⟩,rfl⟩)
      case measure => simp only [World.iterPos,hI1,hit]; omega
     | false =>
      rw [hid,Bool.false_and] at HJ'
      rw [hid] at q
      have Q : Hid _ := q
      have E : Hid (R = false) := HJ'
      clear q HJ' hid
      go_wp2_with fail
      refine Calls.mono (Q.out _) ?_
      rintro e w1 ⟨rfl,hB1⟩
      have HB4 : Hid (Below w.heap.size w w1) := HB3.out.trans (hB1.mono HB3.out.size)
      go_wp2
      go_ret
      exact ⟨by rw [E.out]; rfl,HB4.out⟩
    ·have hc : ∃ (c : Int) (d : Nat),((Utf8.decode X p).1 : Int) = c ∧ (Utf8.decode X p).2 = d ∧ c ≠ 46 ∧ 0 ≤ c ∧ c ≤ 2147483647 ∧ 1 ≤ d ∧ p + d ≤ s.length ∧ ∀ j,p ≤ j → j < p + d → s.getD j 0 ≠ 46 := by
      rcases HC with ⟨h1,h2,h3⟩ | ⟨h1,h2,h3,h4,h5,h6⟩
      ·exact ⟨_,_,rfl,rfl,by omega,by omega,by omega,by omega,by omega,fun j a b => by rw [show j = p by omega]; exact h46⟩
      ·exact ⟨_,_,rfl,rfl,by omega,by omega,by omega,h4,h5,fun j a b => by have := h6 j a b; omega⟩
     obtain ⟨c,d,h1,h2,h3,h4,h5,h6,h7,h8⟩ := hc
     rw [h1,h2] at hnx
     have hI := HI2 (p + d)
     have HB3 : Hid _ := HB2 (p + d)
     have HJ2 : Hid (R = (nsp (lpc s f (p + d)) (s.drop (p + d))).all nident) := by show _ = _; rw [HJ.out,nsp_skip s f d p hfp h7 h8]
     obtain ⟨wi,hwi⟩ : ∃ wi,wi = wr.iterAt w.heap.size X (p + d) := ⟨_,rfl⟩
     rw [← hwi] at hnx hI HB3
     have e46 : (c != 46) = true := by simpa using h3
     clear HC HI2 HB2 hwi h46 HJ h8 h1 h2 hc0 hc1 h3
     go_wp2
     go_roundw
     case rel => first | exact ⟨p + d,f,by go_num,hI,by omega,by omega,HJ2,HB3⟩ | ((repeat apply Exists.intro); exact ⟨⟨p + d,f,by go_num,hI,by omega,by omega,HJ2,HB3⟩,rfl⟩)
     case measure => simp only [World.iterPos,hI,hit]; omega
   ·obtain rfl : p = s.length := by omega
    have hnx : ∀ ty,(Instr.next (.pointer (some ⟨w.heap.size,0,none⟩)) true ty).run Tryz.prog wr = _ := fun ty => Lib.run_next_end_at wr w.heap.size X s.length ty hit (by omega)
    have hcut := HTl.out f hfp
    have HJ' := HJ.out
    rw [List.drop_length,nsp,List.all_cons,List.all_nil,Bool.and_true,lpc_tail] at HJ'
    have q := fun W => pident_any (s.drop f) W trivial (getD_bd (fun c hc => HBy.out c (List.mem_of_mem_drop hc))) (by simp; omega)
    rw [← HJ'] at q
    have Q : Hid _ := q
    obtain ⟨L,hL⟩ : ∃ L,L = strOfNums (s.drop f) := ⟨_,rfl⟩
    rw [← hL] at hcut Q
    clear hL q HJ' HJ
    go_wp2_with fail
    refine Calls.mono (Q.out _) ?_
    rintro e w1 ⟨rfl,hB1⟩
    have HB4 : Hid (Below w.heap.size w w1) := HB.out.trans (hB1.mono HB.out.size)
    go_wp2
    go_ret
    exact ⟨rfl,HB4.out⟩

end Go.Proofs.YtlekfcehmlepkaaGreatDoor
