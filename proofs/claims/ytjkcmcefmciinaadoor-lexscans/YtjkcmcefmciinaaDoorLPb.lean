/- Go's own searches in texts, in the plain functions' words, and the contracts of the program's small functions of layer 5. -/
import Derived.Test.YtjkcmcefmciinaaDoorLPa
import Derived.Test.YtjkcmcefmciinaaDoorQPn
import Derived.Test.YtjkcmcefmciinaaDoorLSh
namespace Go.Proofs.YtjkcmcefmciinaaDoor
open Go.RowKit
set_option linter.unusedVariables false
set_option linter.unusedSimpArgs false

def u8s (l : List Int) : List UInt8 := l.map fun n => UInt8.ofNat n.toNat

theorem nums_list (l : List Int) : (strOfNums l).data.toList = u8s l := strOfNums_data l

theorem nums_of (l : List Int) : (⟨(u8s l).toArray⟩ : ByteArray) = strOfNums l := by
  apply ByteArray.ext
  apply Array.ext'
  rw [nums_list]

theorem u8_eq (c : Int) (h : 0 ≤ c ∧ c ≤ 255) (n : Nat) (hn : n ≤ 255) : (UInt8.ofNat c.toNat = UInt8.ofNat n) ↔ c = n := by
  constructor
  · intro e
    exact u8_inj h ⟨by omega, by omega⟩ (by simpa using e)
  · rintro rfl; simp

theorem ix10 : ∀ s : List Int, (∀ c ∈ s, 0 ≤ c ∧ c ≤ 255) → (Lib.index (u8s s) [10] = -1 ∧ s.takeWhile leol = s) ∨ ∃ k : Nat, Lib.index (u8s s) [10] = k ∧ s.takeWhile leol = s.take k
  | [], _ => .inl ⟨rfl, rfl⟩
  | c :: r, h => by
    have hc := h c (by simp)
    have ih := ix10 r (fun x hx => h x (by simp [hx]))
    have e : Lib.index (u8s (c :: r)) [10] = if c = 10 then 0 else if Lib.index (u8s r) [10] == -1 then -1 else Lib.index (u8s r) [10] + 1 := by
      show (if ([10] : List UInt8).isPrefixOf (UInt8.ofNat c.toNat :: u8s r) = true then (0 : Int) else if Lib.index (u8s r) [10] == -1 then -1 else Lib.index (u8s r) [10] + 1) = _
      have hp : ([10] : List UInt8).isPrefixOf (UInt8.ofNat c.toNat :: u8s r) = decide (c = 10) := by
        simp only [List.isPrefixOf, Bool.and_true]
        rw [Bool.eq_iff_iff, beq_iff_eq, decide_eq_true_eq]
        have := u8_eq c hc 10 (by omega)
        constructor
        · intro g; exact this.1 g.symm
        · intro g; exact (this.2 g).symm
      rw [hp]
      by_cases k : c = 10 <;> simp [k]
    rw [e]
    by_cases k : c = 10
    · subst k
      exact .inr ⟨0, by simp, by simp [leol]⟩
    · rw [if_neg k]
      have hl : leol c = true := decide_eq_true k
      rcases ih with ⟨h1, h2⟩ | ⟨j, h1, h2⟩
      · left
        rw [h1, List.takeWhile_cons, if_pos hl, h2]
        simp
      · right
        refine ⟨j + 1, ?_, ?_⟩
        · rw [h1, if_neg (by simp only [beq_iff_eq]; omega)]; rfl
        · rw [List.takeWhile_cons, if_pos hl, h2]; simp

theorem cut10 (s : List Int) (h : ∀ c ∈ s, 0 ≤ c ∧ c ≤ 255) : (⟨(Lib.cut (u8s s) [10]).1.toArray⟩ : ByteArray) = strOfNums (s.takeWhile leol) := by
  rw [← nums_of]
  unfold Lib.cut
  rcases ix10 s h with ⟨h1, h2⟩ | ⟨k, h1, h2⟩
  · rw [h1, if_neg (by omega), h2]
  · rw [h1, if_pos (by omega), h2]
    simp [u8s, List.map_take]

theorem pre2 (s : List Int) (i : Nat) (a b : Nat) (ha : a ≤ 255) (hb : b ≤ 255) (hz : ∀ i, 0 ≤ s.getD i 0 ∧ s.getD i 0 ≤ 255) :
    Lib.hasPrefix (u8s (s.drop i)) [UInt8.ofNat a, UInt8.ofNat b] = decide (i + 1 < s.length ∧ s.getD i 0 = a ∧ s.getD (i + 1) 0 = b) := by
  unfold Lib.hasPrefix
  rcases Nat.lt_or_ge i s.length with h | h
  · rw [drop_cons h]
    rcases Nat.lt_or_ge (i + 1) s.length with h2 | h2
    · rw [drop_cons h2]
      simp only [u8s, List.map_cons, List.isPrefixOf, Bool.and_true]
      rw [Bool.eq_iff_iff]
      simp only [Bool.and_eq_true, beq_iff_eq, decide_eq_true_eq]
      have e1 := u8_eq _ (hz i) a ha
      have e2 := u8_eq _ (hz (i + 1)) b hb
      constructor
      · rintro ⟨g1, g2⟩; exact ⟨h2, e1.1 g1.symm, e2.1 g2.symm⟩
      · rintro ⟨_, g1, g2⟩; exact ⟨(e1.2 g1).symm, (e2.2 g2).symm⟩
    · rw [List.drop_eq_nil_of_le h2]
      simp only [u8s, List.map_cons, List.map_nil, List.isPrefixOf, Bool.and_false]
      rw [eq_comm, decide_eq_false_iff_not]
      omega
  · rw [List.drop_eq_nil_of_le h]
    simp only [u8s, List.map_nil, List.isPrefixOf]
    rw [eq_comm, decide_eq_false_iff_not]
    omega

theorem ixcl (s : List Int) (hz : ∀ i, 0 ≤ s.getD i 0 ∧ s.getD i 0 ≤ 255) : ∀ (f k : Nat), s.length ≤ k + f → Lib.index (u8s (s.drop k)) [42, 47] = if lcl s f k + 1 < s.length then ((lcl s f k : Nat) : Int) - k else -1
  | 0, k, h => by
    rw [List.drop_eq_nil_of_le (by omega), lcl, if_neg (by omega)]
    rfl
  | f + 1, k, h => by
    rcases Nat.lt_or_ge k s.length with hk | hk
    · have hp := pre2 s k 42 47 (by omega) (by omega) hz
      unfold Lib.hasPrefix at hp
      have e : Lib.index (u8s (s.drop k)) [42, 47] = if (k + 1 < s.length ∧ s.getD k 0 = 42 ∧ s.getD (k + 1) 0 = 47) then 0 else if Lib.index (u8s (s.drop (k + 1))) [42, 47] == -1 then -1 else Lib.index (u8s (s.drop (k + 1))) [42, 47] + 1 := by
        rw [drop_cons hk] at hp ⊢
        show (if ([42, 47] : List UInt8).isPrefixOf (u8s (s.getD k 0 :: s.drop (k + 1))) = true then (0 : Int) else if Lib.index (u8s (s.drop (k + 1))) [42, 47] == -1 then -1 else Lib.index (u8s (s.drop (k + 1))) [42, 47] + 1) = _
        rw [show ([42, 47] : List UInt8) = [UInt8.ofNat 42, UInt8.ofNat 47] from rfl, hp]
        by_cases g : k + 1 < s.length ∧ s.getD k 0 = 42 ∧ s.getD (k + 1) 0 = 47
        · rw [if_pos g, if_pos (decide_eq_true (by exact g))]
        · rw [if_neg g, if_neg (by rw [decide_eq_true_eq]; exact g)]
      have hge := lcl_ge s f (k + 1)
      have ih := ixcl s hz f (k + 1) (by omega)
      by_cases g : k + 1 < s.length
      · by_cases m : s.getD k 0 = 42 ∧ s.getD (k + 1) 0 = 47
        · have hl : lcl s (f + 1) k = k := by rw [lcl, if_neg (fun q => q.2 m)]
          rw [e, if_pos ⟨g, m⟩, hl, if_pos g]; omega
        · have hl : lcl s (f + 1) k = lcl s f (k + 1) := by rw [lcl, if_pos ⟨g, m⟩]
          rw [e, if_neg (fun q => m q.2), hl, ih]
          by_cases c : lcl s f (k + 1) + 1 < s.length
          · rw [if_pos c, if_pos c, if_neg (by simp; omega)]; push_cast; omega
          · rw [if_neg c, if_neg c]; rfl
      · have hl : lcl s (f + 1) k = k := by rw [lcl, if_neg (fun q => g q.1)]
        rw [e, if_neg (fun q => g q.1), hl, ih, if_neg (show ¬ lcl s f (k + 1) + 1 < s.length by omega), if_neg g]
        rfl
    · rw [List.drop_eq_nil_of_le hk]
      have : lcl s (f + 1) k = k := by rw [lcl, if_neg (by omega)]
      rw [this, if_neg (by omega)]
      rfl

theorem ixb_mem (x : UInt8) : ∀ l : List UInt8, (0 ≤ Lib.indexByte l x ↔ x ∈ l) ∧ -1 ≤ Lib.indexByte l x
  | [] => ⟨by simp [Lib.indexByte], by simp [Lib.indexByte]⟩
  | b :: l => by
    obtain ⟨h1, h2⟩ := ixb_mem x l
    rw [Lib.indexByte]
    by_cases k : b = x
    · subst k; simp
    · rw [if_neg (by simpa using k)]
      by_cases m : Lib.indexByte l x = -1
      · rw [if_pos (by simpa using m)]
        refine ⟨⟨fun g => by omega, fun g => ?_⟩, by omega⟩
        rcases List.mem_cons.1 g with g | g
        · exact absurd g.symm k
        · have := h1.2 g; omega
      · rw [if_neg (by simpa using m)]
        refine ⟨⟨fun g => List.mem_cons_of_mem _ (h1.1 (by omega)), fun g => by omega⟩, by omega⟩

/-- What the road's tables hold: utf.heads, and some number in internal/bytealg.MaxLen. -/
def LTab (w : World) : Prop := QTab w ∧ ∃ m, w.cell? ⟨0, 0, none⟩ = some (.int .i64 m)

theorem LTab.below {w w' : World} (h : LTab w) {B : Nat} (hb : Below B w w') (hB : w.heap.size ≤ B) : LTab w' := by
  obtain ⟨h1, m, h2⟩ := h
  exact ⟨h1.below hb hB, m, (hb.cell (Nat.lt_of_lt_of_le (cell_lt' h2) hB)).trans h2⟩

set_option maxHeartbeats 400000 in
theorem pfirst_any (s : List Int) (w : World) (hT : Hid (LTab w)) (hz : Hid (∀ c ∈ s, 0 ≤ c ∧ c ≤ 255)) (hlen : s.length ≤ 1000000) :
    Calls Tryd.prog 31 #[.string (strOfNums s)] w fun e w' => e = .returned (.string (strOfNums (s.takeWhile leol))) ∧ Below w.heap.size w w' := by
  obtain ⟨_, m, hm⟩ := hT.out
  have q := Sh.strings_Cut (strOfNums s) { data := #[10] } m w (by rw [strOfNums_size]; omega) hm
  rw [nums_list] at q
  have e := cut10 s hz.out
  rw [show ({ data := #[10] } : ByteArray).data.toList = [10] from rfl, e] at q
  have Q : Hid _ := q
  clear q e hm
  go_enter Tryd.func31, Tryd.ntmps31
  go_wp2_with fail
  refine Calls.mono Q.out ?_
  rintro e w1 ⟨rfl, n, rfl⟩
  go_wp2
  go_ret
  exact ⟨rfl, Below.drewN'' _ _⟩

set_option maxHeartbeats 400000 in
theorem pdigit_any (c : Int) (w : World) (h0 : 0 ≤ c) (h1 : c ≤ 255) :
    Calls Tryd.prog 52 #[.int .u8 c] w fun e w' => e = .returned (.bool (lnumb c)) ∧ w = w' := by
  rcases (show (48 ≤ c ∧ c ≤ 57) ∨ c < 48 ∨ 57 < c by omega) with h | h | h
  · have E : Hid (lnumb c = true) := decide_eq_true (by omega)
    obtain ⟨p1, p2⟩ := h
    go_enter Tryd.func52, Tryd.ntmps52
    go_wp2
    go_ret
    exact ⟨by rw [E.out]; first | rfl | exact ret_bool (by simp; omega), rfl⟩
  · have E : Hid (lnumb c = false) := decide_eq_false (by omega)
    go_enter Tryd.func52, Tryd.ntmps52
    go_wp2
    go_ret
    exact ⟨by rw [E.out]; first | rfl | exact ret_bool (by simp; omega), rfl⟩
  · have E : Hid (lnumb c = false) := decide_eq_false (by omega)
    go_enter Tryd.func52, Tryd.ntmps52
    go_wp2
    go_ret
    exact ⟨by rw [E.out]; first | rfl | exact ret_bool (by simp; omega), rfl⟩

set_option maxHeartbeats 400000 in
theorem pclone_any (s : List Int) (w : World) (hlen : s.length ≤ 1000000) :
    Calls Tryd.prog 40 #[.string (strOfNums s)] w fun e w' => e = .returned (.string (strOfNums s)) ∧ Below w.heap.size w w' := by
  have q := Sh.stringslite_Clone (strOfNums s) w (by rw [strOfNums_size]; omega)
  have Q : Hid _ := q
  clear q
  go_enter Tryd.func40, Tryd.ntmps40
  go_wp2_with fail
  refine Calls.mono Q.out ?_
  rintro e w1 ⟨rfl, hb⟩
  go_wp2
  go_ret
  exact ⟨rfl, hb⟩

end Go.Proofs.YtjkcmcefmciinaaDoor
