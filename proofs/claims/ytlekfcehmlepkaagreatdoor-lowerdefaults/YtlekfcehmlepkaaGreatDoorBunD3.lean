/- Put together by a program out of these texts of mine: QTak, LRef, LRef2. -/
import Derived.Test.YtlekfcehmlepkaaGreatDoorBunD1
import Derived.Test.YtlekfcehmlepkaaGreatDoorBunD2

namespace Go.Proofs.YtlekfcehmlepkaaGreatDoor
open Go.RowKit
set_option linter.unusedVariables false
set_option linter.unusedSimpArgs false

theorem lit_bs1 (w : World) (c : Int) (h0 : 0 ≤ c) (h1 : c ≤ 255) : Bs (w.alloc (.cells #[.int .u8 c] 5)) (some ⟨w.heap.size,0,none⟩) 1 1 [c] :=
 Bs.of_owns (zs := [c]) (own_lit w c) (by intro x hx; simp at hx; omega)

theorem qesc_out (s : List Int) : (qesc s).1.length ≤ (qesc s).2 := by
 cases s with
 | nil => simp [qesc]
 | cons c r =>
  have h5 := uput_len (qrn 16 4 r 0).1
  have h6 := uput_len (qrn 16 8 r 0).1
  suffices key : ∀ p,qesc (c :: r) = p → p.1.length ≤ p.2 from key _ rfl
  intro p
  rw [qesc]
  by_cases k0 : c = 97
  ·rw [if_pos k0]; rintro rfl; simp
  rw [if_neg k0]
  by_cases k1 : c = 98
  ·rw [if_pos k1]; rintro rfl; simp
  rw [if_neg k1]
  by_cases k2 : c = 102
  ·rw [if_pos k2]; rintro rfl; simp
  rw [if_neg k2]
  by_cases k3 : c = 110
  ·rw [if_pos k3]; rintro rfl; simp
  rw [if_neg k3]
  by_cases k4 : c = 114
  ·rw [if_pos k4]; rintro rfl; simp
  rw [if_neg k4]
  by_cases k5 : c = 116
  ·rw [if_pos k5]; rintro rfl; simp
  rw [if_neg k5]
  by_cases k6 : c = 118
  ·rw [if_pos k6]; rintro rfl; simp
  rw [if_neg k6]
  by_cases k7 : c = 92 ∨ c = 39 ∨ c = 34 ∨ c = 63
  ·rw [if_pos k7]; rintro rfl; simp
  rw [if_neg k7]
  by_cases m0 : c = 120 ∨ c = 88
  ·rw [if_pos m0]
   by_cases j : 0 < (qrn 16 2 r 0).2
   ·rw [if_pos j]; rintro rfl; simp only [List.length_cons,List.length_nil]; omega
   ·rw [if_neg j]; rintro rfl; simp
  rw [if_neg m0]
  by_cases m1 : c = 117
  ·rw [if_pos m1]
   by_cases j : (qrn 16 4 r 0).2 = 4 ∧ isCh (qrn 16 4 r 0).1 = true
   ·rw [if_pos j]; rintro rfl; simp only [List.length_cons,List.length_nil]; omega
   ·rw [if_neg j]; rintro rfl; simp
  rw [if_neg m1]
  by_cases m2 : c = 85
  ·rw [if_pos m2]
   by_cases j : (qrn 16 8 r 0).2 = 8 ∧ isCh (qrn 16 8 r 0).1 = true
   ·rw [if_pos j]; rintro rfl; simp only [List.length_cons,List.length_nil]; omega
   ·rw [if_neg j]; rintro rfl; simp
  rw [if_neg m2]
  by_cases j : 0 < (qrn 8 3 (c :: r) 0).2 ∧ (qrn 8 3 (c :: r) 0).1 < 256
  ·rw [if_pos j]; rintro rfl; simp only [List.length_cons,List.length_nil]; omega
  ·rw [if_neg j]; rintro rfl; simp

theorem qtk_bd (q : Int) : ∀ (f : Nat) (s : List Int) (i : Int) (o : List Int),(∀ c ∈ s,0 ≤ c ∧ c ≤ 255) → (∀ c ∈ o,0 ≤ c ∧ c ≤ 255) → ∀ c ∈ (qtk q f s i o).1,0 ≤ c ∧ c ≤ 255
 | 0,s,i,o,_,_ => by simp [qtk]
 | f + 1,[],i,o,_,_ => by simp [qtk]
 | f + 1,c :: r,i,o,h,ho => by
  have hr : ∀ c ∈ r,0 ≤ c ∧ c ≤ 255 := fun x hx => h x (by simp [hx])
  rw [qtk]
  by_cases k1 : c = q
  ·rw [if_pos k1]; exact ho
  rw [if_neg k1]
  by_cases k2 : c = 0 ∨ c = 10
  ·rw [if_pos k2]; simp
  rw [if_neg k2]
  by_cases k3 : c = 92
  ·rw [if_pos k3]
   by_cases k4 : (qesc r).2 = 0
   ·rw [if_pos k4]; simp
   ·rw [if_neg k4]
    exact qtk_bd q f _ _ _ (fun x hx => hr x (List.mem_of_mem_drop hx)) (fun x hx => (List.mem_append.1 hx).elim (ho x) (qesc_bd r hr x))
  ·rw [if_neg k3]
   exact qtk_bd q f _ _ _ hr (fun x hx => (List.mem_append.1 hx).elim (ho x) (fun hx => by simp at hx; subst hx; exact h x (by simp)))

theorem qtake_bd (s : List Int) (h : ∀ c ∈ s,0 ≤ c ∧ c ≤ 255) : ∀ c ∈ (qtake s).1,0 ≤ c ∧ c ≤ 255 := by
 cases s with
 | nil => simp [qtake]
 | cons c r =>
  rw [qtake]
  by_cases k : c = 34 ∨ c = 39
  ·rw [if_pos k]; exact qtk_bd c _ r 1 [] (fun x hx => h x (by simp [hx])) (by simp)
  ·rw [if_neg k]; simp

theorem str_nums (s : ByteArray) : ∃ z : List Int,s = strOfNums z ∧ ∀ i,0 ≤ z.getD i 0 ∧ z.getD i 0 ≤ 255 := by
 refine ⟨s.data.toList.map fun x => (x.toNat : Int),?_,getD_bd ?_⟩
 ·apply ByteArray.ext
  apply Array.ext'
  rw [strOfNums_data,List.map_map]
  conv => lhs; rw [← List.map_id s.data.toList]
  apply List.map_congr_left
  intro x _
  simp
 ·intro c hc
  obtain ⟨x,_,rfl⟩ := List.mem_map.1 hc
  have := x.toNat_lt
  omega

theorem drop_at {l : List Int} {k : Nat} (h : k < l.length) : l.drop k = l.getD k 0 :: l.drop (k + 1) := by
 rw [List.drop_eq_getElem_cons h]
 simp [List.getD,List.getElem?_eq_getElem h]

set_option maxHeartbeats 1000000 in
theorem rtak_34 (r : List Int) (w : World) (hz : Hid (∀ i,0 ≤ ((34 : Int) :: r).getD i 0 ∧ ((34 : Int) :: r).getD i 0 ≤ 255)) (hlen : (r.length : Int) ≤ 100000000) :
  Calls Tryz.prog 34 #[.string (strOfNums (34 :: r))] w fun e w' => ∃ v,e = .returned (.tuple #[v,.int .i64 (qtk 34 r.length r 1 []).2.1,.int .i64 (qtk 34 r.length r 1 []).2.2]) ∧
   w'.ownsRow w.heap.size 5 1 v (qtk 34 r.length r 1 []).1.length ((qtk 34 r.length r 1 []).1.map (Value.int .u8)) ∧ Below w.heap.size w w' := by
 have hsz := strOfNums_size (34 :: r)
 have hat0 := str_at (34 :: r) hz.out 0 (by rw [hsz]; simp)
 have hne := str_ne 34 r
 rw [show ((34 : Int) :: r).getD 0 0 = 34 from rfl] at hat0
 have HA : Hid (∀ k,(h : k < r.length + 1) → (((strOfNums (34 :: r))[k]'(by rw [hsz]; exact h)).toNat : Int) = ((34 : Int) :: r).getD k 0) := fun k h => str_at (34 :: r) hz.out k _
 have HX : Hid (∀ k,(strOfNums (34 :: r)).extract k (r.length + 1) = strOfNums (((34 : Int) :: r).drop k)) := fun k => by
  rw [str_cut,List.take_of_length_le (by simp)]
 simp only [List.length_cons] at hsz
 generalize strOfNums (34 :: r) = S at hsz hat0 hne HA HX
 obtain ⟨l,hl⟩ : ∃ l : List Int,l = (34 : Int) :: r := ⟨_,rfl⟩
 have HL : Hid (l.length = r.length + 1) := by show _ = _; rw [hl]; rfl
 have HR : Hid (r = l.drop 1) := by show _ = _; rw [hl]; rfl
 rw [← hl] at hz
 simp only [← hl] at HA HX
 clear hl
 obtain ⟨R,hR⟩ : ∃ R,R = qtk 34 r.length r 1 [] := ⟨_,rfl⟩
 rw [← hR]
 have HR0 : Hid (R = qtk 34 (l.drop 1).length (l.drop 1) 1 []) := by show _ = _; rw [hR,← HR.out]
 clear hR
 go_enter Tryz.func34,Tryz.ntmps34
 go_wp2
 go_loopw [5,6] (fun v i wr => ∃ (k : Nat) (o : List Int),i = .int .i64 (k : Int) ∧ 1 ≤ k ∧ k ≤ r.length + 1 ∧ o.length ≤ k ∧ Hid (R = qtk 34 (l.drop k).length (l.drop k) (k : Int) o) ∧ wr.ownsRow w.heap.size 5 1 v o.length (o.map (Value.int .u8)) ∧ Below w.heap.size w wr)
  (fun _ i _ => r.length + 1 - (intOf i).toNat)
 case atStart => exact ⟨1,[],rfl,by omega,by omega,by simp,HR0,World.ownsRow_nil _ _ _ _,Below.refl _ _⟩
 case round =>
  obtain ⟨k,o,rfl,hk1,hkl,hol,HQ,hown,hb⟩ := hrel
  have hbs := hb.size
  by_cases hk : k < r.length + 1
  ·have hat := HA.out k hk
   obtain ⟨c0,c255⟩ := hz.out k
   have HD : Hid (l.drop k = l.getD k 0 :: l.drop (k + 1)) := drop_at (by rw [HL.out]; exact hk)
   have hex := HX.out (k + 1)
   have HZD : Hid (∀ i,0 ≤ (l.drop (k + 1)).getD i 0 ∧ (l.drop (k + 1)).getD i 0 ≤ 255) := fun i => by rw [getD_drop']; exact hz.out _
   have HLD : Hid ((l.drop (k + 1)).length = r.length - k) := by show _ = _; rw [List.length_drop,HL.out]; omega
   generalize l.getD k 0 = c at hat c0 c255 HD
   have HQ' := HQ.out
   rw [HD.out,List.length_cons,qtk] at HQ'
   have HQ2 : Hid _ := HQ'
   clear HQ' HQ HR0
   by_cases hq : c = 34
   ·subst hq
    have E : Hid (R = (o,(k : Int) + 1,0)) := by have := HQ2.out; rw [if_pos rfl] at this; exact this
    clear HQ2
    go_wp2
    go_ret3
    exact ⟨_,by rw [E.out]; rfl,by rw [E.out]; exact hown,hb⟩
   have hq' : (c == 34) = false := by simpa using hq
   by_cases h0 : c = 0 ∨ c = 10
   ·have E : Hid (R = ([],(k : Int),40)) := by have := HQ2.out; rw [if_neg hq,if_pos h0] at this; exact this
    clear HQ2
    rcases h0 with rfl | rfl
    ·go_wp2
     go_ret3
     exact ⟨_,by rw [E.out]; rfl,by rw [E.out]; exact World.ownsRow_nil _ _ _ _,hb⟩
    ·go_wp2
     go_ret3
     exact ⟨_,by rw [E.out]; rfl,by rw [E.out]; exact World.ownsRow_nil _ _ _ _,hb⟩
   have h0' : (c == 0) = false := by simp; omega
   have h10' : (c == 10) = false := by simp; omega
   by_cases h92 : c = 92
   ·subst h92
    have E1 := HQ2.out
    rw [if_neg hq,if_neg h0,if_pos rfl] at E1
    have HE : Hid _ := E1
    have q := fun W => resc_any (l.drop (k + 1)) W HZD (by have := HLD.out; omega)
    have qle := qesc_le (l.drop (k + 1))
    have qbd := qesc_bd (l.drop (k + 1)) (mem_bd HZD.out)
    have qo := qesc_out (l.drop (k + 1))
    generalize qesc (l.drop (k + 1)) = p at E1 HE q qle qbd qo
    obtain ⟨p1,p2⟩ := p
    simp only at E1 qle qbd qo
    have QB : Hid _ := qbd
    have Q : Hid _ := q
    have hpl : p2 ≤ r.length - k := by have := HLD.out; omega
    clear q qbd HQ2 qle E1
    by_cases hp : p2 = 0
    ·subst hp
     have E : Hid (R = ([],(k : Int),40)) := by have := HE.out; simp only [if_true] at this; exact this
     clear HE
     go_wp2_with fail
     refine Calls.mono (Q.out _) ?_
     rintro e w1 ⟨v1,rfl,hown1,hb1⟩
     rw [show (((0 : Nat)) : Int) = 0 from rfl]
     go_wp2
     go_ret3
     exact ⟨_,by rw [E.out]; rfl,by rw [E.out]; exact World.ownsRow_nil _ _ _ _,hb.trans (hb1.mono hbs)⟩
    ·have hp' : ((p2 : Int) == 0) = false := by simp; omega
     have E : Hid (R = qtk 34 (l.drop (k + 1 + p2)).length (l.drop (k + 1 + p2)) ((k + 1 + p2 : Nat) : Int) (o ++ p1)) := by
      have := HE.out
      simp only [if_neg hp,List.drop_drop] at this
      show _ = _
      rw [this,qtk_fuel 34 _ (l.drop (k + 1 + p2)).length _ _ _ (by simp only [List.length_drop]; omega) (Nat.le_refl _)]
      congr 1
     clear HE
     go_wp2_with fail
     refine Calls.mono (Q.out _) ?_
     rintro e w1 ⟨v1,rfl,hown1,hb1⟩
     simp only at hown1
     obtain ⟨a1,cc1,rfl⟩ := own_slice hown1
     have B1 : Hid (Bs w1 a1 p1.length cc1 p1) := Bs.of_owns hown1 QB.out
     have hown' := own_below hown hb1
     have hs1 := hb1.size
     clear hown1
     go_wp2_with (at_builtin; refine wpList_append_bs rfl _ _ rfl w.heap.size _ _ _ _ _ _ p1 rfl rfl hown' B1.out (by omega) (by omega) ?_; intro v2 w2 hown2 hgrow2)
     have hB1 : Below w.heap.size w w1 := hb.trans (hb1.mono hbs)
     have hB2 : Below w.heap.size w w2 := hB1.grown hgrow2 hB1.size (fun j hj => (hown'.lt j hj).1)
     clear hgrow2
     go_roundw
     case rel =>
      refine ⟨k + 1 + p2,o ++ p1,by go_num,by omega,by omega,by simp only [List.length_append]; omega,E,?_,hB2⟩
      rw [List.length_append,List.map_append]
      exact hown2
     case measure => simp [intOf]; omega
   have h92' : (c == 92) = false := by simpa using h92
   have E : Hid (R = qtk 34 (l.drop (k + 1)).length (l.drop (k + 1)) ((k + 1 : Nat) : Int) (o ++ [c])) := by
    have := HQ2.out
    rw [if_neg hq,if_neg h0,if_neg h92] at this
    exact this
   clear HQ2
   go_wp2_with (at_builtin; refine wpList_append_bs rfl _ _ rfl w.heap.size _ _ _ _ _ _ [c] rfl rfl (own_below hown ((Below.refl _ _).alloc (Nat.le_refl _) _)) (lit_bs1 _ c c0 c255) (by omega) (by simp; omega) ?_; intro v2 w2 hown2 hgrow2)
   have hB1 : Below w.heap.size w (wr.alloc (.cells #[.int .u8 c] 5)) := hb.alloc hbs _
   have hB2 : Below w.heap.size w w2 := hB1.grown hgrow2 hB1.size (fun j hj => (hown.lt j hj).1)
   clear hgrow2
   go_roundw
   case rel =>
    refine ⟨k + 1,o ++ [c],by go_num,by omega,by omega,by simp only [List.length_append,List.length_cons,List.length_nil]; omega,E,?_,hB2⟩
    rw [List.length_append,List.map_append]
    exact hown2
   case measure => simp [intOf]; omega
  ·obtain rfl : k = r.length + 1 := by omega
   have E : Hid (R = ([],((r.length + 1 : Nat) : Int),40)) := by
    show _ = _
    rw [HQ.out,List.drop_eq_nil_of_le (by rw [HL.out]; omega)]
    rfl
   clear HQ HR0
   go_wp2
   go_ret3
   exact ⟨_,by rw [E.out]; rfl,by rw [E.out]; exact World.ownsRow_nil _ _ _ _,hb⟩

set_option maxHeartbeats 1000000 in
theorem rtak_39 (r : List Int) (w : World) (hz : Hid (∀ i,0 ≤ ((39 : Int) :: r).getD i 0 ∧ ((39 : Int) :: r).getD i 0 ≤ 255)) (hlen : (r.length : Int) ≤ 100000000) :
  Calls Tryz.prog 34 #[.string (strOfNums (39 :: r))] w fun e w' => ∃ v,e = .returned (.tuple #[v,.int .i64 (qtk 39 r.length r 1 []).2.1,.int .i64 (qtk 39 r.length r 1 []).2.2]) ∧
   w'.ownsRow w.heap.size 5 1 v (qtk 39 r.length r 1 []).1.length ((qtk 39 r.length r 1 []).1.map (Value.int .u8)) ∧ Below w.heap.size w w' := by
 have hsz := strOfNums_size (39 :: r)
 have hat0 := str_at (39 :: r) hz.out 0 (by rw [hsz]; simp)
 have hne := str_ne 39 r
 rw [show ((39 : Int) :: r).getD 0 0 = 39 from rfl] at hat0
 have HA : Hid (∀ k,(h : k < r.length + 1) → (((strOfNums (39 :: r))[k]'(by rw [hsz]; exact h)).toNat : Int) = ((39 : Int) :: r).getD k 0) := fun k h => str_at (39 :: r) hz.out k _
 have HX : Hid (∀ k,(strOfNums (39 :: r)).extract k (r.length + 1) = strOfNums (((39 : Int) :: r).drop k)) := fun k => by
  rw [str_cut,List.take_of_length_le (by simp)]
 simp only [List.length_cons] at hsz
 generalize strOfNums (39 :: r) = S at hsz hat0 hne HA HX
 obtain ⟨l,hl⟩ : ∃ l : List Int,l = (39 : Int) :: r := ⟨_,rfl⟩
 have HL : Hid (l.length = r.length + 1) := by show _ = _; rw [hl]; rfl
 have HR : Hid (r = l.drop 1) := by show _ = _; rw [hl]; rfl
 rw [← hl] at hz
 simp only [← hl] at HA HX
 clear hl
 obtain ⟨R,hR⟩ : ∃ R,R = qtk 39 r.length r 1 [] := ⟨_,rfl⟩
 rw [← hR]
 have HR0 : Hid (R = qtk 39 (l.drop 1).length (l.drop 1) 1 []) := by show _ = _; rw [hR,← HR.out]
 clear hR
 go_enter Tryz.func34,Tryz.ntmps34
 go_wp2
 go_loopw [5,6] (fun v i wr => ∃ (k : Nat) (o : List Int),i = .int .i64 (k : Int) ∧ 1 ≤ k ∧ k ≤ r.length + 1 ∧ o.length ≤ k ∧ Hid (R = qtk 39 (l.drop k).length (l.drop k) (k : Int) o) ∧ wr.ownsRow w.heap.size 5 1 v o.length (o.map (Value.int .u8)) ∧ Below w.heap.size w wr)
  (fun _ i _ => r.length + 1 - (intOf i).toNat)
 case atStart => exact ⟨1,[],rfl,by omega,by omega,by simp,HR0,World.ownsRow_nil _ _ _ _,Below.refl _ _⟩
 case round =>
  obtain ⟨k,o,rfl,hk1,hkl,hol,HQ,hown,hb⟩ := hrel
  have hbs := hb.size
  by_cases hk : k < r.length + 1
  ·have hat := HA.out k hk
   obtain ⟨c0,c255⟩ := hz.out k
   have HD : Hid (l.drop k = l.getD k 0 :: l.drop (k + 1)) := drop_at (by rw [HL.out]; exact hk)
   have hex := HX.out (k + 1)
   have HZD : Hid (∀ i,0 ≤ (l.drop (k + 1)).getD i 0 ∧ (l.drop (k + 1)).getD i 0 ≤ 255) := fun i => by rw [getD_drop']; exact hz.out _
   have HLD : Hid ((l.drop (k + 1)).length = r.length - k) := by show _ = _; rw [List.length_drop,HL.out]; omega
   generalize l.getD k 0 = c at hat c0 c255 HD
   have HQ' := HQ.out
   rw [HD.out,List.length_cons,qtk] at HQ'
   have HQ2 : Hid _ := HQ'
   clear HQ' HQ HR0
   by_cases hq : c = 39
   ·subst hq
    have E : Hid (R = (o,(k : Int) + 1,0)) := by have := HQ2.out; rw [if_pos rfl] at this; exact this
    clear HQ2
    go_wp2
    go_ret3
    exact ⟨_,by rw [E.out]; rfl,by rw [E.out]; exact hown,hb⟩
   have hq' : (c == 39) = false := by simpa using hq
   by_cases h0 : c = 0 ∨ c = 10
   ·have E : Hid (R = ([],(k : Int),40)) := by have := HQ2.out; rw [if_neg hq,if_pos h0] at this; exact this
    clear HQ2
    rcases h0 with rfl | rfl
    ·go_wp2
     go_ret3
     exact ⟨_,by rw [E.out]; rfl,by rw [E.out]; exact World.ownsRow_nil _ _ _ _,hb⟩
    ·go_wp2
     go_ret3
     exact ⟨_,by rw [E.out]; rfl,by rw [E.out]; exact World.ownsRow_nil _ _ _ _,hb⟩
   have h0' : (c == 0) = false := by simp; omega
   have h10' : (c == 10) = false := by simp; omega
   by_cases h92 : c = 92
   ·subst h92
    have E1 := HQ2.out
    rw [if_neg hq,if_neg h0,if_pos rfl] at E1
    have HE : Hid _ := E1
    have q := fun W => resc_any (l.drop (k + 1)) W HZD (by have := HLD.out; omega)
    have qle := qesc_le (l.drop (k + 1))
    have qbd := qesc_bd (l.drop (k + 1)) (mem_bd HZD.out)
    have qo := qesc_out (l.drop (k + 1))
    generalize qesc (l.drop (k + 1)) = p at E1 HE q qle qbd qo
    obtain ⟨p1,p2⟩ := p
    simp only at E1 qle qbd qo
    have QB : Hid _ := qbd
    have Q : Hid _ := q
    have hpl : p2 ≤ r.length - k := by have := HLD.out; omega
    clear q qbd HQ2 qle E1
    by_cases hp : p2 = 0
    ·subst hp
     have E : Hid (R = ([],(k : Int),40)) := by have := HE.out; simp only [if_true] at this; exact this
     clear HE
     go_wp2_with fail
     refine Calls.mono (Q.out _) ?_
     rintro e w1 ⟨v1,rfl,hown1,hb1⟩
     rw [show (((0 : Nat)) : Int) = 0 from rfl]
     go_wp2
     go_ret3
     exact ⟨_,by rw [E.out]; rfl,by rw [E.out]; exact World.ownsRow_nil _ _ _ _,hb.trans (hb1.mono hbs)⟩
    ·have hp' : ((p2 : Int) == 0) = false := by simp; omega
     have E : Hid (R = qtk 39 (l.drop (k + 1 + p2)).length (l.drop (k + 1 + p2)) ((k + 1 + p2 : Nat) : Int) (o ++ p1)) := by
      have := HE.out
      simp only [if_neg hp,List.drop_drop] at this
      show _ = _
      rw [this,qtk_fuel 39 _ (l.drop (k + 1 + p2)).length _ _ _ (by simp only [List.length_drop]; omega) (Nat.le_refl _)]
      congr 1
     clear HE
     go_wp2_with fail
     refine Calls.mono (Q.out _) ?_
     rintro e w1 ⟨v1,rfl,hown1,hb1⟩
     simp only at hown1
     obtain ⟨a1,cc1,rfl⟩ := own_slice hown1
     have B1 : Hid (Bs w1 a1 p1.length cc1 p1) := Bs.of_owns hown1 QB.out
     have hown' := own_below hown hb1
     have hs1 := hb1.size
     clear hown1
     go_wp2_with (at_builtin; refine wpList_append_bs rfl _ _ rfl w.heap.size _ _ _ _ _ _ p1 rfl rfl hown' B1.out (by omega) (by omega) ?_; intro v2 w2 hown2 hgrow2)
     have hB1 : Below w.heap.size w w1 := hb.trans (hb1.mono hbs)
     have hB2 : Below w.heap.size w w2 := hB1.grown hgrow2 hB1.size (fun j hj => (hown'.lt j hj).1)
     clear hgrow2
     go_roundw
     case rel =>
      refine ⟨k + 1 + p2,o ++ p1,by go_num,by omega,by omega,by simp only [List.length_append]; omega,E,?_,hB2⟩
      rw [List.length_append,List.map_append]
      exact hown2
     case measure => simp [intOf]; omega
   have h92' : (c == 92) = false := by simpa using h92
   have E : Hid (R = qtk 39 (l.drop (k + 1)).length (l.drop (k + 1)) ((k + 1 : Nat) : Int) (o ++ [c])) := by
    have := HQ2.out
    rw [if_neg hq,if_neg h0,if_neg h92] at this
    exact this
   clear HQ2
   go_wp2_with (at_builtin; refine wpList_append_bs rfl _ _ rfl w.heap.size _ _ _ _ _ _ [c] rfl rfl (own_below hown ((Below.refl _ _).alloc (Nat.le_refl _) _)) (lit_bs1 _ c c0 c255) (by omega) (by simp; omega) ?_; intro v2 w2 hown2 hgrow2)
   have hB1 : Below w.heap.size w (wr.alloc (.cells #[.int .u8 c] 5)) := hb.alloc hbs _
   have hB2 : Below w.heap.size w w2 := hB1.grown hgrow2 hB1.size (fun j hj => (hown.lt j hj).1)
   clear hgrow2
   go_roundw
   case rel =>
    refine ⟨k + 1,o ++ [c],by go_num,by omega,by omega,by simp only [List.length_append,List.length_cons,List.length_nil]; omega,E,?_,hB2⟩
    rw [List.length_append,List.map_append]
    exact hown2
   case measure => simp [intOf]; omega
  ·obtain rfl : k = r.length + 1 := by omega
   have E : Hid (R = ([],((r.length + 1 : Nat) : Int),40)) := by
    show _ = _
    rw [HQ.out,List.drop_eq_nil_of_le (by rw [HL.out]; omega)]
    rfl
   clear HQ HR0
   go_wp2
   go_ret3
   exact ⟨_,by rw [E.out]; rfl,by rw [E.out]; exact World.ownsRow_nil _ _ _ _,hb⟩

set_option maxHeartbeats 400000 in
theorem rtak_nil (w : World) : Calls Tryz.prog 34 #[.string (strOfNums [])] w fun e w' => e = .returned (.tuple #[.slice none 0 0,.int .i64 0,.int .i64 40]) ∧ w = w' := by
 have hne : ((strOfNums []).toList == []) = true := by rw [str_list]; rfl
 generalize strOfNums [] = S at hne
 go_enter Tryz.func34,Tryz.ntmps34
 go_wp2
 go_ret3
 exact ⟨rfl,rfl⟩

set_option maxHeartbeats 400000 in
theorem rtak_no (q : Int) (r : List Int) (w : World) (hz : Hid (∀ i,0 ≤ (q :: r).getD i 0 ∧ (q :: r).getD i 0 ≤ 255)) (h34 : (q != 34) = true) (h39 : (q != 39) = true) :
  Calls Tryz.prog 34 #[.string (strOfNums (q :: r))] w fun e w' => e = .returned (.tuple #[.slice none 0 0,.int .i64 0,.int .i64 40]) ∧ w = w' := by
 have hsz := strOfNums_size (q :: r)
 have hat0 := str_at (q :: r) hz.out 0 (by rw [hsz]; simp)
 have hne := str_ne q r
 rw [show (q :: r).getD 0 0 = q from rfl] at hat0
 obtain ⟨q0,q255⟩ : 0 ≤ q ∧ q ≤ 255 := hz.out 0
 simp only [List.length_cons] at hsz
 generalize strOfNums (q :: r) = S at hsz hat0 hne
 go_enter Tryz.func34,Tryz.ntmps34
 go_wp2
 go_ret3
 exact ⟨rfl,rfl⟩

theorem rtak_any (zs : List Int) (w : World) (hz : Hid (∀ i,0 ≤ zs.getD i 0 ∧ zs.getD i 0 ≤ 255)) (hlen : (zs.length : Int) ≤ 100000000) :
  Calls Tryz.prog 34 #[.string (strOfNums zs)] w fun e w' => ∃ v,e = .returned (.tuple #[v,.int .i64 (qtake zs).2.1,.int .i64 (qtake zs).2.2]) ∧
   w'.ownsRow w.heap.size 5 1 v (qtake zs).1.length ((qtake zs).1.map (Value.int .u8)) ∧ Below w.heap.size w w' := by
 cases zs with
 | nil => exact (rtak_nil w).mono fun e w' ⟨h1,h2⟩ => ⟨_,h1,World.ownsRow_nil _ _ _ _,h2 ▸ Below.refl _ _⟩
 | cons q r =>
  simp only [List.length_cons] at hlen
  by_cases h34 : q = 34
  ·subst h34
   have e : qtake (34 :: r) = qtk 34 r.length r 1 [] := by simp [qtake]
   rw [e]
   exact rtak_34 r w hz (by omega)
  by_cases h39 : q = 39
  ·subst h39
   have e : qtake (39 :: r) = qtk 39 r.length r 1 [] := by simp [qtake]
   rw [e]
   exact rtak_39 r w hz (by omega)
  have e : qtake (q :: r) = ([],0,40) := by rw [qtake,if_neg (by omega)]
  rw [e]
  exact (rtak_no q r w hz (by simpa using h34) (by simpa using h39)).mono fun e w' ⟨h1,h2⟩ => ⟨_,h1,World.ownsRow_nil _ _ _ _,h2 ▸ Below.refl _ _⟩

theorem lblank_t {c : Int} (h : c = 32 ∨ (9 ≤ c ∧ c ≤ 13)) : lblank c = true := decide_eq_true h

theorem lblank_f {c : Int} (h : ¬ (c = 32 ∨ (9 ≤ c ∧ c ≤ 13))) : lblank c = false := decide_eq_false h

set_option maxHeartbeats 400000 in
theorem rblank_any (c : Int) (w : World) (h0 : 0 ≤ c) (h1 : c ≤ 255) :
  Calls Tryz.prog 29 #[.int .u8 c] w fun e w' => e = .returned (.bool (lblank c)) ∧ w = w' := by
 by_cases k : c = 32
 ·have E : Hid (lblank c = true) := lblank_t (.inl k)
  subst k
  go_enter Tryz.func29,Tryz.ntmps29
  go_wp2
  go_ret
  exact ⟨by rw [E.out]; first | rfl | exact ret_bool (by simp; omega),rfl⟩
 have e32 : (c == 32) = false := by simpa using k
 by_cases k2 : 9 ≤ c ∧ c ≤ 13
 ·have E : Hid (lblank c = true) := lblank_t (.inr k2)
  obtain ⟨p1,p2⟩ := k2
  go_enter Tryz.func29,Tryz.ntmps29
  go_wp2
  go_ret
  exact ⟨by rw [E.out]; first | rfl | exact ret_bool (by simp; omega),rfl⟩
 have E : Hid (lblank c = false) := lblank_f (by omega)
 have hw : c < 9 ∨ 13 < c := by omega
 clear k2
 rcases hw with hw | hw
 ·go_enter Tryz.func29,Tryz.ntmps29
  go_wp2
  go_ret
  exact ⟨by rw [E.out]; first | rfl | exact ret_bool (by simp; omega),rfl⟩
 ·go_enter Tryz.func29,Tryz.ntmps29
  go_wp2
  go_ret
  exact ⟨by rw [E.out]; first | rfl | exact ret_bool (by simp; omega),rfl⟩

set_option maxHeartbeats 1000000 in
theorem rletter_any (c : Int) (w : World) (h0 : 0 ≤ c) (h1 : c ≤ 255) :
  Calls Tryz.prog 31 #[.int .u8 c] w fun e w' => e = .returned (.bool (lletter c)) ∧ w = w' := by
 by_cases k95 : c = 95
 ·have E : Hid (lletter c = true) := decide_eq_true (by omega)
  subst k95
  go_enter Tryz.func31,Tryz.ntmps31
  go_wp2
  go_ret
  exact ⟨by rw [E.out]; first | rfl | exact ret_bool (by simp; omega),rfl⟩
 have e95 : (c == 95) = false := by simpa using k95
 rcases (show (97 ≤ c ∧ c ≤ 122) ∨ (65 ≤ c ∧ c ≤ 90) ∨ (48 ≤ c ∧ c ≤ 57) ∨ c < 48 ∨ (57 < c ∧ c < 65) ∨ (90 < c ∧ c < 97) ∨ 122 < c by omega) with h | h | h | h | h | h | h
 ·have E : Hid (lletter c = true) := decide_eq_true (by omega)
  obtain ⟨p1,p2⟩ := h
  go_enter Tryz.func31,Tryz.ntmps31
  go_wp2
  go_ret
  exact ⟨by rw [E.out]; first | rfl | exact ret_bool (by simp; omega),rfl⟩
 ·have E : Hid (lletter c = true) := decide_eq_true (by omega)
  obtain ⟨p1,p2⟩ := h
  go_enter Tryz.func31,Tryz.ntmps31
  go_wp2
  go_ret
  exact ⟨by rw [E.out]; first | rfl | exact ret_bool (by simp; omega),rfl⟩
 ·have E : Hid (lletter c = true) := decide_eq_true (by omega)
  obtain ⟨p1,p2⟩ := h
  go_enter Tryz.func31,Tryz.ntmps31
  go_wp2
  go_ret
  exact ⟨by rw [E.out]; first | rfl | exact ret_bool (by simp; omega),rfl⟩
 ·have E : Hid (lletter c = false) := decide_eq_false (by omega)
  go_enter Tryz.func31,Tryz.ntmps31
  go_wp2
  go_ret
  exact ⟨by rw [E.out]; first | rfl | exact ret_bool (by simp; omega),rfl⟩
 ·have E : Hid (lletter c = false) := decide_eq_false (by omega)
  obtain ⟨p1,p2⟩ := h
  go_enter Tryz.func31,Tryz.ntmps31
  go_wp2
  go_ret
  exact ⟨by rw [E.out]; first | rfl | exact ret_bool (by simp; omega),rfl⟩
 ·have E : Hid (lletter c = false) := decide_eq_false (by omega)
  obtain ⟨p1,p2⟩ := h
  go_enter Tryz.func31,Tryz.ntmps31
  go_wp2
  go_ret
  exact ⟨by rw [E.out]; first | rfl | exact ret_bool (by simp; omega),rfl⟩
 ·have E : Hid (lletter c = false) := decide_eq_false (by omega)
  go_enter Tryz.func31,Tryz.ntmps31
  go_wp2
  go_ret
  exact ⟨by rw [E.out]; first | rfl | exact ret_bool (by simp; omega),rfl⟩

set_option maxHeartbeats 400000 in
theorem rnumber_any (c : Int) (w : World) (h0 : 0 ≤ c) (h1 : c ≤ 255) :
  Calls Tryz.prog 32 #[.int .u8 c] w fun e w' => e = .returned (.bool (lnumb c)) ∧ w = w' := by
 rcases (show (48 ≤ c ∧ c ≤ 57) ∨ c < 48 ∨ 57 < c by omega) with h | h | h
 ·have E : Hid (lnumb c = true) := decide_eq_true (by omega)
  obtain ⟨p1,p2⟩ := h
  go_enter Tryz.func32,Tryz.ntmps32
  go_wp2
  go_ret
  exact ⟨by rw [E.out]; first | rfl | exact ret_bool (by simp; omega),rfl⟩
 ·have E : Hid (lnumb c = false) := decide_eq_false (by omega)
  go_enter Tryz.func32,Tryz.ntmps32
  go_wp2
  go_ret
  exact ⟨by rw [E.out]; first | rfl | exact ret_bool (by simp; omega),rfl⟩
 ·have E : Hid (lnumb c = false) := decide_eq_false (by omega)
  go_enter Tryz.func32,Tryz.ntmps32
  go_wp2
  go_ret
  exact ⟨by rw [E.out]; first | rfl | exact ret_bool (by simp; omega),rfl⟩

set_option maxHeartbeats 1000000 in
theorem rsign_any (c : Int) (w : World) :
  Calls Tryz.prog 35 #[.int .u8 c] w fun e w' => e = .returned (.bool (lsign c)) ∧ w = w' := by
 by_cases k59 : c = 59
 ·have E : Hid (lsign c = true) := decide_eq_true (by omega)
  subst k59
  go_enter Tryz.func35,Tryz.ntmps35
  go_wp2
  go_ret
  exact ⟨by rw [E.out]; first | rfl | exact ret_bool (by simp; omega),rfl⟩
 have e59 : (c == 59) = false := by simpa using k59
 by_cases k44 : c = 44
 ·have E : Hid (lsign c = true) := decide_eq_true (by omega)
  subst k44
  go_enter Tryz.func35,Tryz.ntmps35
  go_wp2
  go_ret
  exact ⟨by rw [E.out]; first | rfl | exact ret_bool (by simp; omega),rfl⟩
 have e44 : (c == 44) = false := by simpa using k44
 by_cases k46 : c = 46
 ·have E : Hid (lsign c = true) := decide_eq_true (by omega)
  subst k46
  go_enter Tryz.func35,Tryz.ntmps35
  go_wp2
  go_ret
  exact ⟨by rw [E.out]; first | rfl | exact ret_bool (by simp; omega),rfl⟩
 have e46 : (c == 46) = false := by simpa using k46
 by_cases k61 : c = 61
 ·have E : Hid (lsign c = true) := decide_eq_true (by omega)
  subst k61
  go_enter Tryz.func35,Tryz.ntmps35
  go_wp2
  go_ret
  exact ⟨by rw [E.out]; first | rfl | exact ret_bool (by simp; omega),rfl⟩
 have e61 : (c == 61) = false := by simpa using k61
 by_cases k123 : c = 123
 ·have E : Hid (lsign c = true) := decide_eq_true (by omega)
  subst k123
  go_enter Tryz.func35,Tryz.ntmps35
  go_wp2
  go_ret
  exact ⟨by rw [E.out]; first | rfl | exact ret_bool (by simp; omega),rfl⟩
 have e123 : (c == 123) = false := by simpa using k123
 by_cases k125 : c = 125
 ·have E : Hid (lsign c = true) := decide_eq_true (by omega)
  subst k125
  go_enter Tryz.func35,Tryz.ntmps35
  go_wp2
  go_ret
  exact ⟨by rw [E.out]; first | rfl | exact ret_bool (by simp; omega),rfl⟩
 have e125 : (c == 125) = false := by simpa using k125
 by_cases k91 : c = 91
 ·have E : Hid (lsign c = true) := decide_eq_true (by omega)
  subst k91
  go_enter Tryz.func35,Tryz.ntmps35
  go_wp2
  go_ret
  exact ⟨by rw [E.out]; first | rfl | exact ret_bool (by simp; omega),rfl⟩
 have e91 : (c == 91) = false := by simpa using k91
 by_cases k93 : c = 93
 ·have E : Hid (lsign c = true) := decide_eq_true (by omega)
  subst k93
  go_enter Tryz.func35,Tryz.ntmps35
  go_wp2
  go_ret
  exact ⟨by rw [E.out]; first | rfl | exact ret_bool (by simp; omega),rfl⟩
 have e93 : (c == 93) = false := by simpa using k93
 by_cases k40 : c = 40
 ·have E : Hid (lsign c = true) := decide_eq_true (by omega)
  subst k40
  go_enter Tryz.func35,Tryz.ntmps35
  go_wp2
  go_ret
  exact ⟨by rw [E.out]; first | rfl | exact ret_bool (by simp; omega),rfl⟩
 have e40 : (c == 40) = false := by simpa using k40
 by_cases k41 : c = 41
 ·have E : Hid (lsign c = true) := decide_eq_true (by omega)
  subst k41
  go_enter Tryz.func35,Tryz.ntmps35
  go_wp2
  go_ret
  exact ⟨by rw [E.out]; first | rfl | exact ret_bool (by simp; omega),rfl⟩
 have e41 : (c == 41) = false := by simpa using k41
 by_cases k60 : c = 60
 ·have E : Hid (lsign c = true) := decide_eq_true (by omega)
  subst k60
  go_enter Tryz.func35,Tryz.ntmps35
  go_wp2
  go_ret
  exact ⟨by rw [E.out]; first | rfl | exact ret_bool (by simp; omega),rfl⟩
 have e60 : (c == 60) = false := by simpa using k60
 by_cases k62 : c = 62
 ·have E : Hid (lsign c = true) := decide_eq_true (by omega)
  subst k62
  go_enter Tryz.func35,Tryz.ntmps35
  go_wp2
  go_ret
  exact ⟨by rw [E.out]; first | rfl | exact ret_bool (by simp; omega),rfl⟩
 have e62 : (c == 62) = false := by simpa using k62
 by_cases k58 : c = 58
 ·have E : Hid (lsign c = true) := decide_eq_true (by omega)
  subst k58
  go_enter Tryz.func35,Tryz.ntmps35
  go_wp2
  go_ret
  exact ⟨by rw [E.out]; first | rfl | exact ret_bool (by simp; omega),rfl⟩
 have e58 : (c == 58) = false := by simpa using k58
 by_cases k45 : c = 45
 ·have E : Hid (lsign c = true) := decide_eq_true (by omega)
  subst k45
  go_enter Tryz.func35,Tryz.ntmps35
  go_wp2
  go_ret
  exact ⟨by rw [E.out]; first | rfl | exact ret_bool (by simp; omega),rfl⟩
 have e45 : (c == 45) = false := by simpa using k45
 have E : Hid (lsign c = false) := decide_eq_false (by omega)
 go_enter Tryz.func35,Tryz.ntmps35
 go_wp2
 go_ret
 exact ⟨by rw [E.out]; first | rfl | exact ret_bool (by simp; omega),rfl⟩

set_option maxHeartbeats 400000 in
theorem rlineAt_any (s : List Int) (at0 : Nat) (w : World) (hz : Hid (∀ i,0 ≤ s.getD i 0 ∧ s.getD i 0 ≤ 255)) (hlen : (s.length : Int) ≤ 100000000) (hat : at0 ≤ s.length) :
  Calls Tryz.prog 54 #[.string (strOfNums s),.int .i64 (at0 : Int)] w fun e w' => e = .returned (.int .i64 ((lnAt s at0 : Nat) : Int)) ∧ w = w' := by
 have hsz := strOfNums_size s
 have HA : Hid (∀ k,(h : k < s.length) → (((strOfNums s)[k]'(by rw [hsz]; exact h)).toNat : Int) = s.getD k 0) := fun k h => str_at s hz.out k _
 obtain ⟨R,hR⟩ : ∃ R,R = lnAt s at0 := ⟨_,rfl⟩
 rw [← hR]
 have HR : Hid (R = lnAt s at0) := hR
 clear hR
 generalize strOfNums s = S at hsz HA
 go_enter Tryz.func54,Tryz.ntmps54
 go_wp2
 go_loopw [1] (fun v wr => ∃ k : Nat,v = .int .i64 (k : Int) ∧ k ≤ s.length ∧ Hid (R = lnAt s k) ∧ wr = w) (fun v _ => (intOf v).toNat)
 case atStart => exact ⟨at0,rfl,hat,HR,rfl⟩
 case round =>
  obtain ⟨k,rfl,hk,HQ,rfl⟩ := hrel
  clear HR hat
  by_cases h0 : k = 0
  ·subst h0
   have E : Hid (R = 0) := HQ.out
   clear HQ
   rw [show (((0 : Nat)) : Int) = 0 from rfl]
   go_wp2
   go_ret
   exact ⟨by rw [E.out]; first | rfl | exact ret_bool (by simp; omega),rfl⟩
  ·obtain ⟨j,rfl⟩ : ∃ j,k = j + 1 := ⟨k - 1,by omega⟩
   have hj := HA.out j (by omega)
   have HQ' := HQ.out
   rw [lnAt] at HQ'
   generalize s.getD j 0 = c at hj HQ'
   have HQ2 : Hid _ := HQ'
   clear HQ HQ'
   rw [show (((j + 1 : Nat)) : Int) = (j : Int) + 1 by omega]
   have hjp : (0 : Int) < (j : Int) + 1 := by omega
   by_cases hc : c = 10
   ·subst hc
    have E : Hid (R = j + 1) := by have := HQ2.out; rw [if_pos rfl] at this; exact this
    clear HQ2
    go_wp2
    go_ret
    exact ⟨by rw [E.out,show (((j + 1 : Nat)) : Int) = (j : Int) + 1 by omega]; rfl,rfl⟩
   ·have hc' : (c != 10) = true := by simpa using hc
    have E : Hid (R = lnAt s j) := by have := HQ2.out; rw [if_neg hc] at this; exact this
    clear HQ2
    go_wp2
    go_roundw
    case rel => first | exact ⟨j,by go_num,by omega,E,by first | rfl | trivial⟩ | ((repeat apply Exists.intro); exact ⟨⟨j,by go_num,by omega,E,by first | rfl | trivial⟩,rfl⟩)
    case measure => simp [intOf]

theorem str_two (s : List Int) (hz : ∀ i,0 ≤ s.getD i 0 ∧ s.getD i 0 ≤ 255) (i : Nat) (h : i + 1 < s.length) (a b : Int) (ha : 0 ≤ a ∧ a ≤ 255) (hb : 0 ≤ b ∧ b ≤ 255) :
  (((strOfNums s).extract i (i + 2)).toList == [UInt8.ofNat a.toNat,UInt8.ofNat b.toNat]) = decide (s.getD i 0 = a ∧ s.getD (i + 1) 0 = b) := by
 rw [str_cut,str_list,show i + 2 - i = 2 by omega,drop_at (show i < s.length by omega),drop_at h]
 have h1 := hz i
 have h2 := hz (i + 1)
 generalize s.getD i 0 = x at h1
 generalize s.getD (i + 1) 0 = y at h2
 rw [Bool.eq_iff_iff]
 simp only [List.take,List.map_cons,List.map_nil,beq_iff_eq,List.cons.injEq,and_true,decide_eq_true_eq]
 exact ⟨fun h => ⟨u8_inj h1 ha h.1,u8_inj h2 hb h.2⟩,fun h => by rw [h.1,h.2]; exact ⟨rfl,rfl⟩⟩

theorem run_cut (S : ByteArray) (i j : Nat) (ii jj : Int) (hi : ii = (i : Int)) (hj : jj = (j : Int)) (h1 : i ≤ j) (h2 : j ≤ S.size) :
  ∀ W,(Instr.slice 9 (.string S) (some (.int .i64 ii)) (some (.int .i64 jj)) none).run Tryz.prog W = .ok (.string (S.extract i j)) W := fun W => by
 subst hi hj
 rw [run_slice_string W 9 S .i64 .i64 (i : Int) (j : Int) Tryz.underlying9 (by omega) (by omega) (by omega)]
 simp

theorem run_cut_to (S : ByteArray) (i : Nat) (ii : Int) (hi : ii = (i : Int)) (h1 : i ≤ S.size) :
  ∀ W,(Instr.slice 9 (.string S) (some (.int .i64 ii)) none none).run Tryz.prog W = .ok (.string (S.extract i S.size)) W := fun W => by
 subst hi
 rw [run_slice_string_l W 9 S Tryz.underlying9 .i64 (i : Int) (by omega) (by omega)]
 simp

set_option maxHeartbeats 1000000 in
theorem rown_any (s : List Int) (frm to : Nat) (w : World) (hz : Hid (∀ i,0 ≤ s.getD i 0 ∧ s.getD i 0 ≤ 255)) (hlen : (s.length : Int) ≤ 100000000) (hf : frm ≤ to) (ht : to ≤ s.length) :
  Calls Tryz.prog 55 #[.string (strOfNums s),.int .i64 (frm : Int),.int .i64 (to : Int)] w fun e w' => e = .returned (.tuple #[.string (strOfNums ((lown s frm to).getD [])),.bool (lown s frm to).isSome]) ∧ w = w' := by
 have hsz := strOfNums_size s
 have HA : Hid (∀ k,(h : k < s.length) → (((strOfNums s)[k]'(by rw [hsz]; exact h)).toNat : Int) = s.getD k 0) := fun k h => str_at s hz.out k _
 have HT : Hid (∀ k,k + 1 < s.length → (((strOfNums s).extract k (k + 2)).toList == [47,47]) = decide (s.getD k 0 = 47 ∧ s.getD (k + 1) 0 = 47)) := fun k h => str_two s hz.out k h 47 47 (by omega) (by omega)
 have HX : Hid (∀ k,k + 2 ≤ to → (strOfNums s).extract (k + 2) to = strOfNums ((s.take to).drop (k + 2))) := fun k h => by
  rw [str_cut,List.drop_take]
 obtain ⟨R,hR⟩ : ∃ R,R = lown s frm to := ⟨_,rfl⟩
 rw [← hR]
 have HR : Hid (R = lown s frm to) := hR
 clear hR
 generalize strOfNums s = S at hsz HA HT HX
 go_enter Tryz.func55,Tryz.ntmps55
 go_wp2
 go_loopw [8] (fun v wr => ∃ k : Nat,v = .int .i64 (k : Int) ∧ k ≤ to ∧ Hid (lrun lblank s to (to - frm) frm = lrun lblank s to (to - k) k) ∧ wr = w) (fun v _ => to - (intOf v).toNat)
 case atStart => exact ⟨frm,rfl,hf,rfl,rfl⟩
 case round =>
  obtain ⟨k,rfl,hk,HQ,rfl⟩ := hrel
  have fin : Hid (lrun lblank s to (to - frm) frm = k) → Hid (R = if k + 2 ≤ to ∧ s.getD k 0 = 47 ∧ s.getD (k + 1) 0 = 47 then some ((s.take to).drop (k + 2)) else none) := by
   intro h
   show _ = _
   rw [HR.out]
   unfold lown
   rw [h.out]
  clear HR
  by_cases hkt : k < to
  ·obtain ⟨c,hc⟩ : ∃ c,c = s.getD k 0 := ⟨_,rfl⟩
   have hat := HA.out k (by omega)
   have hcb := hz.out k
   have HQ' := HQ.out
   obtain ⟨m,hm⟩ : ∃ m,to - k = m + 1 := ⟨to - k - 1,by omega⟩
   rw [hm,lrun,show m = to - (k + 1) by omega] at HQ'
   rw [← hc] at hat hcb HQ' fin
   obtain ⟨c0,c255⟩ := hcb
   have HC : Hid (c = s.getD k 0) := hc
   clear hc hm HQ
   have q := fun W => rblank_any c W c0 c255
   by_cases hbl : lblank c = true
   ·rw [if_pos ⟨hkt,hbl⟩] at HQ'
    rw [hbl] at q
    have HE : Hid _ := HQ'
    have Q : Hid _ := q
    clear HQ' q fin hbl
    go_wp2_with fail
    refine Calls.mono (Q.out _) ?_
    rintro e w1 ⟨rfl,rfl⟩
    go_wp2
    go_roundw
    case rel => first | exact ⟨k + 1,by go_num,by omega,HE,by first | rfl | trivial⟩ | ((repeat apply Exists.intro); exact ⟨⟨k + 1,by go_num,by omega,HE,by first | rfl | trivial⟩,rfl⟩)
    case measure => simp [intOf]; omega
   ·have hbl' : lblank c = false := by simpa using hbl
    rw [if_neg (fun h => hbl h.2)] at HQ'
    have F := fin HQ'
    rw [hbl'] at q
    have Q : Hid _ := q
    clear HQ' q fin hbl hbl'
    by_cases h2 : k + 2 ≤ to
    ·have htw := HT.out k (by omega)
     rw [← HC.out] at htw
     have hx := HX.out k h2
     have h2' : decide ((to : Int) < (k : Int) + 2) = false := by simp; omega
     have hs1 := run_cut S k (k + 2) (k : Int) ((k : Int) + 2) rfl (by omega) (by omega) (by omega)
     have hs2 := run_cut S (k + 2) to ((k : Int) + 2) (to : Int) (by omega) rfl h2 (by omega)
     by_cases h3 : c = 47 ∧ s.getD (k + 1) 0 = 47
     ·rw [decide_eq_true h3] at htw
      have E : Hid (R = some ((s.take to).drop (k + 2))) := by have := F.out; rw [if_pos ⟨h2,h3⟩] at this; exact this
      clear F h3
      go_wp2_with fail
      refine Calls.mono (Q.out _) ?_
      rintro e w1 ⟨rfl,rfl⟩
      go_wp2
      go_ret2
      exact ⟨by rw [E.out,Option.getD_some,← hx]; rfl,rfl⟩
     ·rw [decide_eq_false h3] at htw
      have E : Hid (R = none) := by have := F.out; rw [if_neg (fun h => h3 h.2)] at this; exact this
      clear F h3
      go_wp2_with fail
      refine Calls.mono (Q.out _) ?_
      rintro e w1 ⟨rfl,rfl⟩
      go_wp2
      go_ret2
      exact ⟨by rw [E.out]; rfl,rfl⟩
    ·have h2' : (to : Int) < (k : Int) + 2 := by omega
     have E : Hid (R = none) := by have := F.out; rw [if_neg (fun h => h2 h.1)] at this; exact this
     clear F
     go_wp2_with fail
     refine Calls.mono (Q.out _) ?_
     rintro e w1 ⟨rfl,rfl⟩
     go_wp2
     go_ret2
     exact ⟨by rw [E.out]; rfl,rfl⟩
  ·obtain rfl : k = to := by omega
   have E : Hid (R = none) := by
    have hq := HQ.out
    rw [Nat.sub_self,lrun] at hq
    have := (fin hq).out
    rw [if_neg (by omega)] at this
    exact this
   clear HQ fin
   have h2' : (k : Int) < (k : Int) + 2 := by omega
   go_wp2
   go_ret2
   exact ⟨by rw [E.out]; rfl,rfl⟩

def Is (w : World) (a : Option Addr) (len cap : Nat) (ms : List Nat) : Prop :=
 ms.length = len ∧ len ≤ cap ∧ (a = none → cap = 0) ∧ (0 < len → ∃ b off,a = some ⟨b,off,none⟩ ∧ b < w.heap.size ∧ ∀ i,i < len → w.cell? ⟨b,off + i,none⟩ = some (.int .i64 ((ms.getD i 0 : Nat) : Int)))

theorem Is.of_owns {w : World} {base n : Nat} {a : Option Addr} {len cap : Nat} {ms : List Nat} (h : w.ownsRow base 3 1 (.slice a len cap) n (ms.map fun m => Value.int .i64 ((m : Nat) : Int))) : Is w a len cap ms := by
 have hz := h.1
 simp at hz
 rcases h.2 with ⟨he,hn⟩ | ⟨g,c,cur,he,hg,hh,h1,h2,h3,h4⟩
 ·simp at he
  obtain ⟨rfl,rfl,rfl⟩ := he
  have : ms = [] := List.eq_nil_of_length_eq_zero (by omega)
  subst this
  exact ⟨rfl,Nat.le_refl _,fun _ => rfl,fun h => absurd h (by omega)⟩
 ·simp at he
  obtain ⟨rfl,rfl,rfl⟩ := he
  refine ⟨hz,h1,fun h => by simp at h,fun hp => ⟨g,0,rfl,(h.lt g rfl).2,fun i hi => ?_⟩⟩
  have := h.cellAt i (by omega)
  rw [Nat.zero_add,this]
  simp [List.getElem?_eq_getElem (show i < ms.length by omega),List.getD]

theorem linside_short (l : List Nat) (k : Nat) (h : l.length ≤ 1) : linside l k = false := by
 match l,h with
 | [],_ => rfl
 | [a],_ => rfl
 | a :: b :: r,h => simp at h

theorem drop_atN {l : List Nat} {k : Nat} (h : k < l.length) : l.drop k = l.getD k 0 :: l.drop (k + 1) := by
 rw [List.drop_eq_getElem_cons h]
 simp [List.getD,List.getElem?_eq_getElem h]

set_option maxHeartbeats 1000000 in
theorem rinside_any {w : World} {a : Option Addr} {len cap : Nat} {ms : List Nat} (h : Hid (Is w a len cap ms)) (k : Nat) (hl6 : len ≤ 1000000) (hk6 : k ≤ 1000000) (HM : Hid (∀ i,ms.getD i 0 ≤ 1000000)) :
  Calls Tryz.prog 56 #[.slice a len cap,.int .i64 (k : Int)] w fun e w' => e = .returned (.bool (linside ms k)) ∧ w = w' := by
 have HL : Hid (ms.length = len) := h.out.1
 obtain ⟨R,hR⟩ : ∃ R,R = linside ms k := ⟨_,rfl⟩
 rw [← hR]
 have HR : Hid (R = linside (ms.drop 0) k) := hR
 clear hR
 go_enter Tryz.func56,Tryz.ntmps56
 go_wp2
 go_loopw [5] (fun v wr => ∃ i : Nat,v = .int .i64 (i : Int) ∧ i ≤ len + 1 ∧ Hid (R = linside (ms.drop i) k) ∧ wr = w) (fun v _ => len + 1 - (intOf v).toNat)
 case atStart => exact ⟨0,rfl,by omega,HR,rfl⟩
 case round =>
  obtain ⟨i,rfl,hi,HQ,rfl⟩ := hrel
  clear HR
  by_cases hil : i + 1 < len
  ·obtain ⟨b,off,rfl,hlt,hc⟩ := h.out.2.2.2 (by omega)
   have c0 := hc i (by omega)
   have c1 := hc (i + 1) (by omega)
   have hm0 := HM.out i
   have hm1 := HM.out (i + 1)
   have HQ' := HQ.out
   rw [drop_atN (by rw [HL.out]; omega),drop_atN (by rw [HL.out]; omega),linside] at HQ'
   generalize ms.getD i 0 = x at c0 HQ' hm0
   generalize ms.getD (i + 1) 0 = y at c1 HQ' hm1
   have HQ2 : Hid _ := HQ'
   clear HQ HQ' hc
   have hil' : (i : Int) + 1 < (len : Int) := by omega
   by_cases h1 : x < k
   ·have h1' : (x : Int) < (k : Int) := by omega
    by_cases h2 : k < y
    ·have h2' : (k : Int) < (y : Int) := by omega
     have E : Hid (R = true) := by have := HQ2.out; rw [decide_eq_true ⟨h1,h2⟩,Bool.true_or] at this; exact this
     clear HQ2
     go_wp2
     go_ret
     exact ⟨by rw [E.out]; rfl,rfl⟩
    ·have h2' : ¬ (k : Int) < (y : Int) := by omega
     have E : Hid (R = linside (ms.drop (i + 2)) k) := by have := HQ2.out; rw [decide_eq_false (fun h => h2 h.2),Bool.false_or] at this; exact this
     clear HQ2
     go_wp2
     go_roundw
     case rel => first | exact ⟨i + 2,by go_num,by omega,E,by first | rfl | trivial⟩ | ((repeat apply Exists.intro); exact ⟨⟨i + 2,by go_num,by omega,E,by first | rfl | trivial⟩,rfl⟩)
     case measure => simp [intOf]; omega
   ·have h1' : ¬ (x : Int) < (k : Int) := by omega
    have E : Hid (R = linside (ms.drop (i + 2)) k) := by have := HQ2.out; rw [decide_eq_false (fun h => h1 h.1),Bool.false_or] at this; exact this
    clear HQ2
    go_wp2
    go_roundw
    case rel => first | exact ⟨i + 2,by go_num,by omega,E,by first | rfl | trivial⟩ | ((repeat apply Exists.intro); exact ⟨⟨i + 2,by go_num,by omega,E,by first | rfl | trivial⟩,rfl⟩)
    case measure => simp [intOf]; omega
  ·have hil' : ¬ (i : Int) + 1 < (len : Int) := by omega
   have E : Hid (R = false) := by have := HQ.out; rw [linside_short _ _ (by rw [List.length_drop,HL.out]; omega)] at this; exact this
   clear HQ
   go_wp2
   go_ret
   exact ⟨by rw [E.out]; rfl,rfl⟩

end Go.Proofs.YtlekfcehmlepkaaGreatDoor
