/- Put together by a program out of these texts of mine: UMath, QMath, LMath, NMath, QRef, QEsc, QTak, LRef, LRef2, QNum. -/
import Derived.WalkKit
import Derived.Deep.QuietTactic
import Derived.BigQuiet
import Derived.WalkSmall
import Derived.Test.YtcnjjhdmnagkgaaGreatDoorBunC1

namespace Go.Proofs.YtcnjjhdmnagkgaaGreatDoor

def cont (c : Int) : Prop := 128 ≤ c ∧ c < 192
def un2 (a b : Int) : Int := (a - 192) * 64 + b - 128
def un3 (a b c : Int) : Int := ((a - 224) * 64 + b - 128) * 64 + c - 128
def un4 (a b c d : Int) : Int := (((a - 240) * 64 + b - 128) * 64 + c - 128) * 64 + d - 128
def fit1 (len a : Int) : Prop := 1 ≤ len ∧ a < 128
def fit2 (len a b : Int) : Prop := 2 ≤ len ∧ 194 ≤ a ∧ a < 224 ∧ cont b
def fit3 (len a b c : Int) : Prop := 3 ≤ len ∧ 224 ≤ a ∧ a < 240 ∧ cont b ∧ cont c ∧ 2048 ≤ un3 a b c ∧ (un3 a b c < 55296 ∨ 57343 < un3 a b c)
def fit4 (len a b c d : Int) : Prop := 4 ≤ len ∧ 240 ≤ a ∧ a < 248 ∧ cont b ∧ cont c ∧ cont d ∧ 65536 ≤ un4 a b c d ∧ un4 a b c d ≤ 1114111

instance (len a : Int) : Decidable (fit1 len a) := by unfold fit1; infer_instance
instance (c : Int) : Decidable (cont c) := by unfold cont; infer_instance
instance (len a b : Int) : Decidable (fit2 len a b) := by unfold fit2; infer_instance
instance (len a b c : Int) : Decidable (fit3 len a b c) := by unfold fit3; infer_instance
instance (len a b c d : Int) : Decidable (fit4 len a b c d) := by unfold fit4; infer_instance

theorem getD_drop' (z : List Int) (k i : Nat) : (z.drop k).getD i 0 = z.getD (k + i) 0 := by simp [List.getD]

end Go.Proofs.YtcnjjhdmnagkgaaGreatDoor

namespace Go.Proofs.YtcnjjhdmnagkgaaGreatDoor
set_option linter.unusedSimpArgs false

def dgt (c : Int) : Int := if 48 ≤ c ∧ c ≤ 57 then c - 48 else if 97 ≤ c ∧ c ≤ 102 then c - 87 else if 65 ≤ c ∧ c ≤ 70 then c - 55 else 99

theorem dgt_bd (c : Int) : 0 ≤ dgt c ∧ dgt c ≤ 99 := by unfold dgt; repeat' split <;> omega

def qnm (base : Int) : List Int → Int → Int × Bool
  | [], n => (n, true)
  | c :: r, n => if base ≤ dgt c ∨ (18446744073709551615 - dgt c) / base < n then (0, false) else qnm base r (n * base + dgt c)

def qnum (s : List Int) : Int × Bool :=
  if 2 < s.length ∧ s.getD 0 0 = 48 ∧ (s.getD 1 0 = 120 ∨ s.getD 1 0 = 88) then qnm 16 (s.drop 2) 0
  else if 1 < s.length ∧ s.getD 0 0 = 48 then qnm 8 (s.drop 1) 0
  else if s = [] then (0, false) else qnm 10 s 0

def qdg : Nat → Int → List Int
  | 0, _ => []
  | f + 1, n => if n < 10 then [48 + n] else qdg f (n / 10) ++ [48 + n % 10]

/-! ### Digits -/
theorem qdg_ten (f : Nat) (n : Int) (h : n < 10) : qdg (f + 1) n = [48 + n] := by rw [qdg, if_pos h]

theorem qdg_more (f : Nat) (n : Int) (h : 10 ≤ n) : qdg (f + 1) n = qdg f (n / 10) ++ [48 + n % 10] := by rw [qdg, if_neg (by omega)]

theorem qdg_bd : ∀ (f : Nat) (n : Int), 0 ≤ n → (∀ c ∈ qdg f n, 48 ≤ c ∧ c ≤ 57) ∧ (qdg f n).length ≤ f
  | 0, n, h => by simp [qdg]
  | f + 1, n, h => by
    by_cases k : n < 10
    · rw [qdg_ten f n k]; simp; omega
    · rw [qdg_more f n (by omega)]
      have := qdg_bd f (n / 10) (by omega)
      refine ⟨fun c hc => ?_, by simp; omega⟩
      rcases List.mem_append.1 hc with hc | hc
      · exact this.1 c hc
      · simp at hc; omega

end Go.Proofs.YtcnjjhdmnagkgaaGreatDoor

namespace Go.Proofs.YtcnjjhdmnagkgaaGreatDoor
set_option linter.unusedSimpArgs false

def lletter (c : Int) : Bool := decide ((97 ≤ c ∧ c ≤ 122) ∨ (65 ≤ c ∧ c ≤ 90) ∨ (48 ≤ c ∧ c ≤ 57) ∨ c = 95)

def lnumb (c : Int) : Bool := decide (48 ≤ c ∧ c ≤ 57)

end Go.Proofs.YtcnjjhdmnagkgaaGreatDoor

namespace Go.Proofs.YtcnjjhdmnagkgaaGreatDoor
set_option linter.unusedSimpArgs false
set_option linter.unusedVariables false

def nident (s : List Int) : Bool := s.all lletter && decide (1 ≤ s.length ∧ s.length ≤ 200) && !lnumb (s.getD 0 0)

def njoin (a b : List Int) : List Int := if a = [] then b else a ++ [46] ++ b

end Go.Proofs.YtcnjjhdmnagkgaaGreatDoor

namespace Go.Proofs.YtcnjjhdmnagkgaaGreatDoor
open Go.RowKit

theorem str_at (zs : List Int) (hz : ∀ i, 0 ≤ zs.getD i 0 ∧ zs.getD i 0 ≤ 255) (k : Nat) (h : k < (strOfNums zs).size) : (((strOfNums zs)[k]'h).toNat : Int) = zs.getD k 0 := by
  have hk : k < zs.length := by rw [strOfNums_size] at h; exact h
  have := hz k
  show ((((zs.map fun n => UInt8.ofNat n.toNat).toArray)[k]'(by simpa using hk)).toNat : Int) = _
  simp only [List.getElem_toArray, List.getElem_map]
  simp only [List.getD, List.getElem?_eq_getElem hk, Option.getD_some] at this ⊢
  simp
  omega

theorem dgt_1 {c : Int} (h : 48 ≤ c ∧ c ≤ 57) : dgt c = c - 48 := by unfold dgt; rw [if_pos h]

theorem dgt_2 {c : Int} (h : 97 ≤ c ∧ c ≤ 102) : dgt c = c - 87 := by unfold dgt; rw [if_neg (by omega), if_pos h]

theorem dgt_3 {c : Int} (h : 65 ≤ c ∧ c ≤ 70) : dgt c = c - 55 := by unfold dgt; rw [if_neg (by omega), if_neg (by omega), if_pos h]

theorem dgt_4 {c : Int} (h1 : ¬ (48 ≤ c ∧ c ≤ 57)) (h2 : ¬ (97 ≤ c ∧ c ≤ 102)) (h3 : ¬ (65 ≤ c ∧ c ≤ 70)) : dgt c = 99 := by unfold dgt; rw [if_neg h1, if_neg h2, if_neg h3]

set_option maxHeartbeats 400000 in
theorem rdigit_any (c : Int) (w : World) (h0 : 0 ≤ c) (h1 : c ≤ 255) :
    Calls Tryz.prog 143 #[.int .u8 c] w fun e w' => e = .returned (.int .i64 (dgt c)) ∧ w = w' := by
  by_cases k1 : 48 ≤ c
  · by_cases k2 : c ≤ 57
    · have E : Hid (dgt c = c - 48) := dgt_1 ⟨k1, k2⟩
      go_enter Tryz.func143, Tryz.ntmps143
      go_wp2
      go_ret
      exact ⟨by rw [E.out]; rfl, rfl⟩
    · by_cases k3 : 97 ≤ c
      · have k3' : 65 ≤ c := by omega
        by_cases k4 : c ≤ 102
        · have E : Hid (dgt c = c - 97 + 10) := by show _ = _; rw [dgt_2 ⟨k3, k4⟩]; omega
          go_enter Tryz.func143, Tryz.ntmps143
          go_wp2
          go_ret
          exact ⟨by rw [E.out]; rfl, rfl⟩
        · have E : Hid (dgt c = 99) := dgt_4 (by omega) (by omega) (by omega)
          have k5 : ¬ c ≤ 70 := by omega
          go_enter Tryz.func143, Tryz.ntmps143
          go_wp2
          go_ret
          exact ⟨by rw [E.out]; rfl, rfl⟩
      · by_cases k4 : 65 ≤ c
        · by_cases k5 : c ≤ 70
          · have E : Hid (dgt c = c - 65 + 10) := by show _ = _; rw [dgt_3 ⟨k4, k5⟩]; omega
            go_enter Tryz.func143, Tryz.ntmps143
            go_wp2
            go_ret
            exact ⟨by rw [E.out]; rfl, rfl⟩
          · have E : Hid (dgt c = 99) := dgt_4 (by omega) (by omega) (by omega)
            go_enter Tryz.func143, Tryz.ntmps143
            go_wp2
            go_ret
            exact ⟨by rw [E.out]; rfl, rfl⟩
        · have E : Hid (dgt c = 99) := dgt_4 (by omega) (by omega) (by omega)
          go_enter Tryz.func143, Tryz.ntmps143
          go_wp2
          go_ret
          exact ⟨by rw [E.out]; rfl, rfl⟩
  · have k3 : ¬ 97 ≤ c := by omega
    have k4 : ¬ 65 ≤ c := by omega
    have E : Hid (dgt c = 99) := dgt_4 (by omega) (by omega) (by omega)
    go_enter Tryz.func143, Tryz.ntmps143
    go_wp2
    go_ret
    exact ⟨by rw [E.out]; rfl, rfl⟩

end Go.Proofs.YtcnjjhdmnagkgaaGreatDoor

namespace Go.Proofs.YtcnjjhdmnagkgaaGreatDoor
open Go.RowKit
set_option linter.unusedVariables false

theorem str_list (zs : List Int) : (strOfNums zs).toList = zs.map fun n => UInt8.ofNat n.toNat := by rw [ByteArray.toList_eq]; rfl

theorem str_ne (c : Int) (r : List Int) : ((strOfNums (c :: r)).toList == []) = false := by rw [str_list]; rfl

theorem str_cut (zs : List Int) (a b : Nat) : (strOfNums zs).extract a b = strOfNums ((zs.drop a).take (b - a)) := by
  unfold strOfNums
  rw [ByteArray.extract_mk, List.map_take, List.map_drop]

end Go.Proofs.YtcnjjhdmnagkgaaGreatDoor

namespace Go.Proofs.YtcnjjhdmnagkgaaGreatDoor
open Go.RowKit
set_option linter.unusedVariables false
set_option linter.unusedSimpArgs false

theorem str_nums (s : ByteArray) : ∃ z : List Int, s = strOfNums z ∧ ∀ i, 0 ≤ z.getD i 0 ∧ z.getD i 0 ≤ 255 := by
  refine ⟨s.data.toList.map fun x => (x.toNat : Int), ?_, getD_bd ?_⟩
  · apply ByteArray.ext
    apply Array.ext'
    rw [strOfNums_data, List.map_map]
    conv => lhs; rw [← List.map_id s.data.toList]
    apply List.map_congr_left
    intro x _
    simp
  · intro c hc
    obtain ⟨x, _, rfl⟩ := List.mem_map.1 hc
    have := x.toNat_lt
    omega

theorem drop_at {l : List Int} {k : Nat} (h : k < l.length) : l.drop k = l.getD k 0 :: l.drop (k + 1) := by
  rw [List.drop_eq_getElem_cons h]
  simp [List.getD, List.getElem?_eq_getElem h]

set_option maxHeartbeats 1000000 in
theorem rletter_any (c : Int) (w : World) (h0 : 0 ≤ c) (h1 : c ≤ 255) :
    Calls Tryz.prog 61 #[.int .u8 c] w fun e w' => e = .returned (.bool (lletter c)) ∧ w = w' := by
  by_cases k95 : c = 95
  · have E : Hid (lletter c = true) := decide_eq_true (by omega)
    subst k95
    go_enter Tryz.func61, Tryz.ntmps61
    go_wp2
    go_ret
    exact ⟨by rw [E.out]; first | rfl | exact ret_bool (by simp; omega), rfl⟩
  have e95 : (c == 95) = false := by simpa using k95
  rcases (show (97 ≤ c ∧ c ≤ 122) ∨ (65 ≤ c ∧ c ≤ 90) ∨ (48 ≤ c ∧ c ≤ 57) ∨ c < 48 ∨ (57 < c ∧ c < 65) ∨ (90 < c ∧ c < 97) ∨ 122 < c by omega) with h | h | h | h | h | h | h
  · have E : Hid (lletter c = true) := decide_eq_true (by omega)
    obtain ⟨p1, p2⟩ := h
    go_enter Tryz.func61, Tryz.ntmps61
    go_wp2
    go_ret
    exact ⟨by rw [E.out]; first | rfl | exact ret_bool (by simp; omega), rfl⟩
  · have E : Hid (lletter c = true) := decide_eq_true (by omega)
    obtain ⟨p1, p2⟩ := h
    go_enter Tryz.func61, Tryz.ntmps61
    go_wp2
    go_ret
    exact ⟨by rw [E.out]; first | rfl | exact ret_bool (by simp; omega), rfl⟩
  · have E : Hid (lletter c = true) := decide_eq_true (by omega)
    obtain ⟨p1, p2⟩ := h
    go_enter Tryz.func61, Tryz.ntmps61
    go_wp2
    go_ret
    exact ⟨by rw [E.out]; first | rfl | exact ret_bool (by simp; omega), rfl⟩
  · have E : Hid (lletter c = false) := decide_eq_false (by omega)
    go_enter Tryz.func61, Tryz.ntmps61
    go_wp2
    go_ret
    exact ⟨by rw [E.out]; first | rfl | exact ret_bool (by simp; omega), rfl⟩
  · have E : Hid (lletter c = false) := decide_eq_false (by omega)
    obtain ⟨p1, p2⟩ := h
    go_enter Tryz.func61, Tryz.ntmps61
    go_wp2
    go_ret
    exact ⟨by rw [E.out]; first | rfl | exact ret_bool (by simp; omega), rfl⟩
  · have E : Hid (lletter c = false) := decide_eq_false (by omega)
    obtain ⟨p1, p2⟩ := h
    go_enter Tryz.func61, Tryz.ntmps61
    go_wp2
    go_ret
    exact ⟨by rw [E.out]; first | rfl | exact ret_bool (by simp; omega), rfl⟩
  · have E : Hid (lletter c = false) := decide_eq_false (by omega)
    go_enter Tryz.func61, Tryz.ntmps61
    go_wp2
    go_ret
    exact ⟨by rw [E.out]; first | rfl | exact ret_bool (by simp; omega), rfl⟩

set_option maxHeartbeats 400000 in
theorem rnumber_any (c : Int) (w : World) (h0 : 0 ≤ c) (h1 : c ≤ 255) :
    Calls Tryz.prog 62 #[.int .u8 c] w fun e w' => e = .returned (.bool (lnumb c)) ∧ w = w' := by
  rcases (show (48 ≤ c ∧ c ≤ 57) ∨ c < 48 ∨ 57 < c by omega) with h | h | h
  · have E : Hid (lnumb c = true) := decide_eq_true (by omega)
    obtain ⟨p1, p2⟩ := h
    go_enter Tryz.func62, Tryz.ntmps62
    go_wp2
    go_ret
    exact ⟨by rw [E.out]; first | rfl | exact ret_bool (by simp; omega), rfl⟩
  · have E : Hid (lnumb c = false) := decide_eq_false (by omega)
    go_enter Tryz.func62, Tryz.ntmps62
    go_wp2
    go_ret
    exact ⟨by rw [E.out]; first | rfl | exact ret_bool (by simp; omega), rfl⟩
  · have E : Hid (lnumb c = false) := decide_eq_false (by omega)
    go_enter Tryz.func62, Tryz.ntmps62
    go_wp2
    go_ret
    exact ⟨by rw [E.out]; first | rfl | exact ret_bool (by simp; omega), rfl⟩

theorem run_cut_to (S : ByteArray) (i : Nat) (ii : Int) (hi : ii = (i : Int)) (h1 : i ≤ S.size) :
    ∀ W, (Instr.slice 9 (.string S) (some (.int .i64 ii)) none none).run Tryz.prog W = .ok (.string (S.extract i S.size)) W := fun W => by
  subst hi
  rw [run_slice_string_l W 9 S Tryz.underlying9 .i64 (i : Int) (by omega) (by omega)]
  simp

end Go.Proofs.YtcnjjhdmnagkgaaGreatDoor

namespace Go.Proofs.YtcnjjhdmnagkgaaGreatDoor
open Go.RowKit
set_option linter.unusedVariables false

set_option maxHeartbeats 1000000 in
theorem rnum_10a (zs : List Int) (w : World) (hz : Hid (∀ i, 0 ≤ zs.getD i 0 ∧ zs.getD i 0 ≤ 255)) (hlen : (zs.length : Int) ≤ 100000000) (h0 : 0 < zs.length) (h1 : zs.length = 1) :
    Calls Tryz.prog 100 #[.string (strOfNums zs)] w fun e w' => e = .returned (.tuple #[.int .u64 (qnm 10 (zs) 0).1, .bool (qnm 10 (zs) 0).2]) ∧ Below w.heap.size w w' := by
  have hsz := strOfNums_size zs
  have HA : Hid (∀ k, (h : k < zs.length) → (((strOfNums zs)[k]'(by rw [hsz]; exact h)).toNat : Int) = zs.getD k 0) := fun k h => str_at zs hz.out k _
  have hdn : ((strOfNums zs).toList == []) = false := by
    cases zs with
    | nil => simp at h0
    | cons c r => exact str_ne c r
  have HZD := hz
  obtain ⟨R, hR⟩ : ∃ R, R = qnm 10 zs 0 := ⟨_, rfl⟩
  rw [← hR]
  have HR : Hid (R = qnm 10 (zs.drop 0) 0) := hR
  clear hR
  go_enter Tryz.func100, Tryz.ntmps100
  go_wp2
  go_loopw [6, 7] (fun v i wr => ∃ (n : Int) (k : Nat), v = .int .u64 n ∧ i = .int .i64 (k : Int) ∧ 0 ≤ n ∧ n ≤ 18446744073709551615 ∧ k ≤ zs.length ∧ Hid (R = qnm 10 (zs.drop k) n) ∧ wr = w) (fun _ i _ => zs.length - (intOf i).toNat)
  case atStart => exact ⟨0, 0, rfl, rfl, by omega, by omega, by omega, HR, rfl⟩
  case round =>
    obtain ⟨n, k, rfl, rfl, n0, n1, hkl, HQ, rfl⟩ := hrel
    by_cases hk : k < zs.length
    · have hat := HA.out k hk
      obtain ⟨c0, c255⟩ := HZD.out k
      have HQ' := HQ.out
      rw [drop_at hk, qnm] at HQ'
      generalize zs.getD k 0 = c at hat c0 c255 HQ'
      have q := fun W => rdigit_any c W c0 c255
      obtain ⟨d0, d99⟩ := dgt_bd c
      generalize dgt c = d at q d0 d99 HQ'
      have Q : Hid _ := q
      have HQ2 : Hid _ := HQ'
      clear HQ' HQ q HR
      by_cases hb : 10 ≤ d
      · have E : Hid (R = (0, false)) := by have := HQ2.out; rw [if_pos (Or.inl hb)] at this; exact this
        clear HQ2
        go_wp2_with fail
        refine Calls.mono (Q.out _) ?_
        rintro e w1 ⟨rfl, rfl⟩
        go_wp2
        go_ret2
        exact ⟨by rw [E.out]; rfl, Below.refl _ _⟩
      · by_cases ho : (18446744073709551615 - d) / 10 < n
        · have E : Hid (R = (0, false)) := by have := HQ2.out; rw [if_pos (Or.inr ho)] at this; exact this
          clear HQ2
          go_wp2_with fail
          refine Calls.mono (Q.out _) ?_
          rintro e w1 ⟨rfl, rfl⟩
          go_wp2
          go_ret2
          exact ⟨by rw [E.out]; rfl, Below.refl _ _⟩
        · have E : Hid (R = qnm 10 (zs.drop (k + 1)) (n * 10 + d)) := by have := HQ2.out; rw [if_neg (by omega)] at this; exact this
          clear HQ2
          go_wp2_with fail
          refine Calls.mono (Q.out _) ?_
          rintro e w1 ⟨rfl, rfl⟩
          go_wp2
          go_roundw
          case rel => exact ⟨n * 10 + d, k + 1, rfl, by go_num, by omega, by omega, by omega, E, by first | rfl | trivial⟩
          case measure => simp [intOf]; omega
    · obtain rfl : k = zs.length := by omega
      have E : Hid (R = (n, true)) := by show _ = _; rw [HQ.out, List.drop_eq_nil_of_le (Nat.le_refl _)]; rfl
      clear HQ HR
      go_wp2
      go_ret2
      exact ⟨by rw [E.out]; rfl, Below.refl _ _⟩

set_option maxHeartbeats 1000000 in
theorem rnum_10b (zs : List Int) (w : World) (hz : Hid (∀ i, 0 ≤ zs.getD i 0 ∧ zs.getD i 0 ≤ 255)) (hlen : (zs.length : Int) ≤ 100000000) (h0 : 0 < zs.length) (h1 : zs.length = 2) (hn : (zs.getD 0 0 == 48) = false) :
    Calls Tryz.prog 100 #[.string (strOfNums zs)] w fun e w' => e = .returned (.tuple #[.int .u64 (qnm 10 (zs) 0).1, .bool (qnm 10 (zs) 0).2]) ∧ Below w.heap.size w w' := by
  have hsz := strOfNums_size zs
  obtain ⟨cz, hcz⟩ : ∃ c, c = zs.getD 0 0 := ⟨_, rfl⟩
  have hat0 := str_at zs hz.out 0 (by rw [hsz]; omega)
  rw [← hcz] at hat0 hn
  obtain ⟨cz0, cz1⟩ := hz.out 0
  rw [← hcz] at cz0 cz1
  clear hcz
  have HA : Hid (∀ k, (h : k < zs.length) → (((strOfNums zs)[k]'(by rw [hsz]; exact h)).toNat : Int) = zs.getD k 0) := fun k h => str_at zs hz.out k _
  have hdn : ((strOfNums zs).toList == []) = false := by
    cases zs with
    | nil => simp at h0
    | cons c r => exact str_ne c r
  have HZD := hz
  obtain ⟨R, hR⟩ : ∃ R, R = qnm 10 zs 0 := ⟨_, rfl⟩
  rw [← hR]
  have HR : Hid (R = qnm 10 (zs.drop 0) 0) := hR
  clear hR
  go_enter Tryz.func100, Tryz.ntmps100
  go_wp2
  go_loopw [6, 7] (fun v i wr => ∃ (n : Int) (k : Nat), v = .int .u64 n ∧ i = .int .i64 (k : Int) ∧ 0 ≤ n ∧ n ≤ 18446744073709551615 ∧ k ≤ zs.length ∧ Hid (R = qnm 10 (zs.drop k) n) ∧ wr = w) (fun _ i _ => zs.length - (intOf i).toNat)
  case atStart => exact ⟨0, 0, rfl, rfl, by omega, by omega, by omega, HR, rfl⟩
  case round =>
    obtain ⟨n, k, rfl, rfl, n0, n1, hkl, HQ, rfl⟩ := hrel
    by_cases hk : k < zs.length
    · have hat := HA.out k hk
      obtain ⟨c0, c255⟩ := HZD.out k
      have HQ' := HQ.out
      rw [drop_at hk, qnm] at HQ'
      generalize zs.getD k 0 = c at hat c0 c255 HQ'
      have q := fun W => rdigit_any c W c0 c255
      obtain ⟨d0, d99⟩ := dgt_bd c
      generalize dgt c = d at q d0 d99 HQ'
      have Q : Hid _ := q
      have HQ2 : Hid _ := HQ'
      clear HQ' HQ q HR
      by_cases hb : 10 ≤ d
      · have E : Hid (R = (0, false)) := by have := HQ2.out; rw [if_pos (Or.inl hb)] at this; exact this
        clear HQ2
        go_wp2_with fail
        refine Calls.mono (Q.out _) ?_
        rintro e w1 ⟨rfl, rfl⟩
        go_wp2
        go_ret2
        exact ⟨by rw [E.out]; rfl, Below.refl _ _⟩
      · by_cases ho : (18446744073709551615 - d) / 10 < n
        · have E : Hid (R = (0, false)) := by have := HQ2.out; rw [if_pos (Or.inr ho)] at this; exact this
          clear HQ2
          go_wp2_with fail
          refine Calls.mono (Q.out _) ?_
          rintro e w1 ⟨rfl, rfl⟩
          go_wp2
          go_ret2
          exact ⟨by rw [E.out]; rfl, Below.refl _ _⟩
        · have E : Hid (R = qnm 10 (zs.drop (k + 1)) (n * 10 + d)) := by have := HQ2.out; rw [if_neg (by omega)] at this; exact this
          clear HQ2
          go_wp2_with fail
          refine Calls.mono (Q.out _) ?_
          rintro e w1 ⟨rfl, rfl⟩
          go_wp2
          go_roundw
          case rel => exact ⟨n * 10 + d, k + 1, rfl, by go_num, by omega, by omega, by omega, E, by first | rfl | trivial⟩
          case measure => simp [intOf]; omega
    · obtain rfl : k = zs.length := by omega
      have E : Hid (R = (n, true)) := by show _ = _; rw [HQ.out, List.drop_eq_nil_of_le (Nat.le_refl _)]; rfl
      clear HQ HR
      go_wp2
      go_ret2
      exact ⟨by rw [E.out]; rfl, Below.refl _ _⟩

set_option maxHeartbeats 1000000 in
theorem rnum_10c (zs : List Int) (w : World) (hz : Hid (∀ i, 0 ≤ zs.getD i 0 ∧ zs.getD i 0 ≤ 255)) (hlen : (zs.length : Int) ≤ 100000000) (h0 : 0 < zs.length) (h1 : 2 < zs.length) (hn : (zs.getD 0 0 == 48) = false) :
    Calls Tryz.prog 100 #[.string (strOfNums zs)] w fun e w' => e = .returned (.tuple #[.int .u64 (qnm 10 (zs) 0).1, .bool (qnm 10 (zs) 0).2]) ∧ Below w.heap.size w w' := by
  have hsz := strOfNums_size zs
  obtain ⟨cz, hcz⟩ : ∃ c, c = zs.getD 0 0 := ⟨_, rfl⟩
  have hat0 := str_at zs hz.out 0 (by rw [hsz]; omega)
  rw [← hcz] at hat0 hn
  obtain ⟨cz0, cz1⟩ := hz.out 0
  rw [← hcz] at cz0 cz1
  clear hcz
  have HA : Hid (∀ k, (h : k < zs.length) → (((strOfNums zs)[k]'(by rw [hsz]; exact h)).toNat : Int) = zs.getD k 0) := fun k h => str_at zs hz.out k _
  have hdn : ((strOfNums zs).toList == []) = false := by
    cases zs with
    | nil => simp at h0
    | cons c r => exact str_ne c r
  have HZD := hz
  obtain ⟨R, hR⟩ : ∃ R, R = qnm 10 zs 0 := ⟨_, rfl⟩
  rw [← hR]
  have HR : Hid (R = qnm 10 (zs.drop 0) 0) := hR
  clear hR
  go_enter Tryz.func100, Tryz.ntmps100
  go_wp2
  go_loopw [6, 7] (fun v i wr => ∃ (n : Int) (k : Nat), v = .int .u64 n ∧ i = .int .i64 (k : Int) ∧ 0 ≤ n ∧ n ≤ 18446744073709551615 ∧ k ≤ zs.length ∧ Hid (R = qnm 10 (zs.drop k) n) ∧ wr = w) (fun _ i _ => zs.length - (intOf i).toNat)
  case atStart => exact ⟨0, 0, rfl, rfl, by omega, by omega, by omega, HR, rfl⟩
  case round =>
    obtain ⟨n, k, rfl, rfl, n0, n1, hkl, HQ, rfl⟩ := hrel
    by_cases hk : k < zs.length
    · have hat := HA.out k hk
      obtain ⟨c0, c255⟩ := HZD.out k
      have HQ' := HQ.out
      rw [drop_at hk, qnm] at HQ'
      generalize zs.getD k 0 = c at hat c0 c255 HQ'
      have q := fun W => rdigit_any c W c0 c255
      obtain ⟨d0, d99⟩ := dgt_bd c
      generalize dgt c = d at q d0 d99 HQ'
      have Q : Hid _ := q
      have HQ2 : Hid _ := HQ'
      clear HQ' HQ q HR
      by_cases hb : 10 ≤ d
      · have E : Hid (R = (0, false)) := by have := HQ2.out; rw [if_pos (Or.inl hb)] at this; exact this
        clear HQ2
        go_wp2_with fail
        refine Calls.mono (Q.out _) ?_
        rintro e w1 ⟨rfl, rfl⟩
        go_wp2
        go_ret2
        exact ⟨by rw [E.out]; rfl, Below.refl _ _⟩
      · by_cases ho : (18446744073709551615 - d) / 10 < n
        · have E : Hid (R = (0, false)) := by have := HQ2.out; rw [if_pos (Or.inr ho)] at this; exact this
          clear HQ2
          go_wp2_with fail
          refine Calls.mono (Q.out _) ?_
          rintro e w1 ⟨rfl, rfl⟩
          go_wp2
          go_ret2
          exact ⟨by rw [E.out]; rfl, Below.refl _ _⟩
        · have E : Hid (R = qnm 10 (zs.drop (k + 1)) (n * 10 + d)) := by have := HQ2.out; rw [if_neg (by omega)] at this; exact this
          clear HQ2
          go_wp2_with fail
          refine Calls.mono (Q.out _) ?_
          rintro e w1 ⟨rfl, rfl⟩
          go_wp2
          go_roundw
          case rel => exact ⟨n * 10 + d, k + 1, rfl, by go_num, by omega, by omega, by omega, E, by first | rfl | trivial⟩
          case measure => simp [intOf]; omega
    · obtain rfl : k = zs.length := by omega
      have E : Hid (R = (n, true)) := by show _ = _; rw [HQ.out, List.drop_eq_nil_of_le (Nat.le_refl _)]; rfl
      clear HQ HR
      go_wp2
      go_ret2
      exact ⟨by rw [E.out]; rfl, Below.refl _ _⟩

set_option maxHeartbeats 1000000 in
theorem rnum_8a (zs : List Int) (w : World) (hz : Hid (∀ i, 0 ≤ zs.getD i 0 ∧ zs.getD i 0 ≤ 255)) (hlen : (zs.length : Int) ≤ 100000000) (h1 : zs.length = 2) (hv0 : zs.getD 0 0 = 48) :
    Calls Tryz.prog 100 #[.string (strOfNums zs)] w fun e w' => e = .returned (.tuple #[.int .u64 (qnm 8 (zs.drop 1) 0).1, .bool (qnm 8 (zs.drop 1) 0).2]) ∧ Below w.heap.size w w' := by
  have hsz := strOfNums_size zs
  have hat0 := str_at zs hz.out 0 (by rw [hsz]; omega)
  rw [hv0] at hat0
  have hex : (strOfNums zs).extract 1 zs.length = strOfNums (zs.drop 1) := by rw [str_cut, List.take_of_length_le (by simp)]
  have HZD : Hid (∀ i, 0 ≤ (zs.drop 1).getD i 0 ∧ (zs.drop 1).getD i 0 ≤ 255) := fun i => by rw [getD_drop']; exact hz.out _
  have hdl : (zs.drop 1).length = zs.length - 1 := List.length_drop
  generalize zs.drop 1 = D at hex HZD hdl
  rw [h1] at hex
  have hsd := strOfNums_size D
  have HA : Hid (∀ k, (h : k < D.length) → (((strOfNums D)[k]'(by rw [hsd]; exact h)).toNat : Int) = D.getD k 0) := fun k h => str_at D HZD.out k _
  have hdn : ((strOfNums D).toList == []) = false := by
    cases D with
    | nil => simp at hdl; omega
    | cons c r => exact str_ne c r
  obtain ⟨R, hR⟩ : ∃ R, R = qnm 8 D 0 := ⟨_, rfl⟩
  rw [← hR]
  have HR : Hid (R = qnm 8 (D.drop 0) 0) := hR
  clear hR
  go_enter Tryz.func100, Tryz.ntmps100
  go_wp2
  go_quiet (fail)
  go_wp2
  go_loopw [6, 7] (fun v i wr => ∃ (n : Int) (k : Nat), v = .int .u64 n ∧ i = .int .i64 (k : Int) ∧ 0 ≤ n ∧ n ≤ 18446744073709551615 ∧ k ≤ D.length ∧ Hid (R = qnm 8 (D.drop k) n) ∧ wr = w.drewN nq) (fun _ i _ => D.length - (intOf i).toNat)
  case atStart => exact ⟨0, 0, rfl, rfl, by omega, by omega, by omega, HR, rfl⟩
  case round =>
    obtain ⟨n, k, rfl, rfl, n0, n1, hkl, HQ, rfl⟩ := hrel
    by_cases hk : k < D.length
    · have hat := HA.out k hk
      obtain ⟨c0, c255⟩ := HZD.out k
      have HQ' := HQ.out
      rw [drop_at hk, qnm] at HQ'
      generalize D.getD k 0 = c at hat c0 c255 HQ'
      have q := fun W => rdigit_any c W c0 c255
      obtain ⟨d0, d99⟩ := dgt_bd c
      generalize dgt c = d at q d0 d99 HQ'
      have Q : Hid _ := q
      have HQ2 : Hid _ := HQ'
      clear HQ' HQ q HR
      by_cases hb : 8 ≤ d
      · have E : Hid (R = (0, false)) := by have := HQ2.out; rw [if_pos (Or.inl hb)] at this; exact this
        clear HQ2
        go_wp2_with fail
        refine Calls.mono (Q.out _) ?_
        rintro e w1 ⟨rfl, rfl⟩
        go_wp2
        go_ret2
        exact ⟨by rw [E.out]; rfl, below_drewN (Below.refl _ _) _⟩
      · by_cases ho : (18446744073709551615 - d) / 8 < n
        · have E : Hid (R = (0, false)) := by have := HQ2.out; rw [if_pos (Or.inr ho)] at this; exact this
          clear HQ2
          go_wp2_with fail
          refine Calls.mono (Q.out _) ?_
          rintro e w1 ⟨rfl, rfl⟩
          go_wp2
          go_ret2
          exact ⟨by rw [E.out]; rfl, below_drewN (Below.refl _ _) _⟩
        · have E : Hid (R = qnm 8 (D.drop (k + 1)) (n * 8 + d)) := by have := HQ2.out; rw [if_neg (by omega)] at this; exact this
          clear HQ2
          go_wp2_with fail
          refine Calls.mono (Q.out _) ?_
          rintro e w1 ⟨rfl, rfl⟩
          go_wp2
          go_roundw
          case rel => exact ⟨n * 8 + d, k + 1, rfl, by go_num, by omega, by omega, by omega, E, by first | rfl | trivial⟩
          case measure => simp [intOf]; omega
    · obtain rfl : k = D.length := by omega
      have E : Hid (R = (n, true)) := by show _ = _; rw [HQ.out, List.drop_eq_nil_of_le (Nat.le_refl _)]; rfl
      clear HQ HR
      go_wp2
      go_ret2
      exact ⟨by rw [E.out]; rfl, below_drewN (Below.refl _ _) _⟩

set_option maxHeartbeats 1000000 in
theorem rnum_8b (zs : List Int) (w : World) (hz : Hid (∀ i, 0 ≤ zs.getD i 0 ∧ zs.getD i 0 ≤ 255)) (hlen : (zs.length : Int) ≤ 100000000) (h1 : 2 < zs.length) (hv0 : zs.getD 0 0 = 48) (hn : (zs.getD 1 0 == 120) = false) (hm : (zs.getD 1 0 == 88) = false) :
    Calls Tryz.prog 100 #[.string (strOfNums zs)] w fun e w' => e = .returned (.tuple #[.int .u64 (qnm 8 (zs.drop 1) 0).1, .bool (qnm 8 (zs.drop 1) 0).2]) ∧ Below w.heap.size w w' := by
  have hsz := strOfNums_size zs
  have hat0 := str_at zs hz.out 0 (by rw [hsz]; omega)
  rw [hv0] at hat0
  obtain ⟨cz, hcz⟩ : ∃ c, c = zs.getD 1 0 := ⟨_, rfl⟩
  have hat1 := str_at zs hz.out 1 (by rw [hsz]; omega)
  rw [← hcz] at hat1 hn hm
  obtain ⟨cz0, cz1⟩ := hz.out 1
  rw [← hcz] at cz0 cz1
  clear hcz
  have hex : (strOfNums zs).extract 1 zs.length = strOfNums (zs.drop 1) := by rw [str_cut, List.take_of_length_le (by simp)]
  have HZD : Hid (∀ i, 0 ≤ (zs.drop 1).getD i 0 ∧ (zs.drop 1).getD i 0 ≤ 255) := fun i => by rw [getD_drop']; exact hz.out _
  have hdl : (zs.drop 1).length = zs.length - 1 := List.length_drop
  generalize zs.drop 1 = D at hex HZD hdl
  have hsd := strOfNums_size D
  have HA : Hid (∀ k, (h : k < D.length) → (((strOfNums D)[k]'(by rw [hsd]; exact h)).toNat : Int) = D.getD k 0) := fun k h => str_at D HZD.out k _
  have hdn : ((strOfNums D).toList == []) = false := by
    cases D with
    | nil => simp at hdl; omega
    | cons c r => exact str_ne c r
  obtain ⟨R, hR⟩ : ∃ R, R = qnm 8 D 0 := ⟨_, rfl⟩
  rw [← hR]
  have HR : Hid (R = qnm 8 (D.drop 0) 0) := hR
  clear hR
  go_enter Tryz.func100, Tryz.ntmps100
  go_wp2
  go_quiet (fail)
  go_wp2
  go_loopw [6, 7] (fun v i wr => ∃ (n : Int) (k : Nat), v = .int .u64 n ∧ i = .int .i64 (k : Int) ∧ 0 ≤ n ∧ n ≤ 18446744073709551615 ∧ k ≤ D.length ∧ Hid (R = qnm 8 (D.drop k) n) ∧ wr = w.drewN nq) (fun _ i _ => D.length - (intOf i).toNat)
  case atStart => exact ⟨0, 0, rfl, rfl, by omega, by omega, by omega, HR, rfl⟩
  case round =>
    obtain ⟨n, k, rfl, rfl, n0, n1, hkl, HQ, rfl⟩ := hrel
    by_cases hk : k < D.length
    · have hat := HA.out k hk
      obtain ⟨c0, c255⟩ := HZD.out k
      have HQ' := HQ.out
      rw [drop_at hk, qnm] at HQ'
      generalize D.getD k 0 = c at hat c0 c255 HQ'
      have q := fun W => rdigit_any c W c0 c255
      obtain ⟨d0, d99⟩ := dgt_bd c
      generalize dgt c = d at q d0 d99 HQ'
      have Q : Hid _ := q
      have HQ2 : Hid _ := HQ'
      clear HQ' HQ q HR
      by_cases hb : 8 ≤ d
      · have E : Hid (R = (0, false)) := by have := HQ2.out; rw [if_pos (Or.inl hb)] at this; exact this
        clear HQ2
        go_wp2_with fail
        refine Calls.mono (Q.out _) ?_
        rintro e w1 ⟨rfl, rfl⟩
        go_wp2
        go_ret2
        exact ⟨by rw [E.out]; rfl, below_drewN (Below.refl _ _) _⟩
      · by_cases ho : (18446744073709551615 - d) / 8 < n
        · have E : Hid (R = (0, false)) := by have := HQ2.out; rw [if_pos (Or.inr ho)] at this; exact this
          clear HQ2
          go_wp2_with fail
          refine Calls.mono (Q.out _) ?_
          rintro e w1 ⟨rfl, rfl⟩
          go_wp2
          go_ret2
          exact ⟨by rw [E.out]; rfl, below_drewN (Below.refl _ _) _⟩
        · have E : Hid (R = qnm 8 (D.drop (k + 1)) (n * 8 + d)) := by have := HQ2.out; rw [if_neg (by omega)] at this; exact this
          clear HQ2
          go_wp2_with fail
          refine Calls.mono (Q.out _) ?_
          rintro e w1 ⟨rfl, rfl⟩
          go_wp2
          go_roundw
          case rel => exact ⟨n * 8 + d, k + 1, rfl, by go_num, by omega, by omega, by omega, E, by first | rfl | trivial⟩
          case measure => simp [intOf]; omega
    · obtain rfl : k = D.length := by omega
      have E : Hid (R = (n, true)) := by show _ = _; rw [HQ.out, List.drop_eq_nil_of_le (Nat.le_refl _)]; rfl
      clear HQ HR
      go_wp2
      go_ret2
      exact ⟨by rw [E.out]; rfl, below_drewN (Below.refl _ _) _⟩

set_option maxHeartbeats 1000000 in
theorem rnum_16a (zs : List Int) (w : World) (hz : Hid (∀ i, 0 ≤ zs.getD i 0 ∧ zs.getD i 0 ≤ 255)) (hlen : (zs.length : Int) ≤ 100000000) (h1 : 2 < zs.length) (hv0 : zs.getD 0 0 = 48) (hv1 : zs.getD 1 0 = 120) :
    Calls Tryz.prog 100 #[.string (strOfNums zs)] w fun e w' => e = .returned (.tuple #[.int .u64 (qnm 16 (zs.drop 2) 0).1, .bool (qnm 16 (zs.drop 2) 0).2]) ∧ Below w.heap.size w w' := by
  have hsz := strOfNums_size zs
  have hat0 := str_at zs hz.out 0 (by rw [hsz]; omega)
  rw [hv0] at hat0
  have hat1 := str_at zs hz.out 1 (by rw [hsz]; omega)
  rw [hv1] at hat1
  have hex : (strOfNums zs).extract 2 zs.length = strOfNums (zs.drop 2) := by rw [str_cut, List.take_of_length_le (by simp)]
  have HZD : Hid (∀ i, 0 ≤ (zs.drop 2).getD i 0 ∧ (zs.drop 2).getD i 0 ≤ 255) := fun i => by rw [getD_drop']; exact hz.out _
  have hdl : (zs.drop 2).length = zs.length - 2 := List.length_drop
  generalize zs.drop 2 = D at hex HZD hdl
  have hsd := strOfNums_size D
  have HA : Hid (∀ k, (h : k < D.length) → (((strOfNums D)[k]'(by rw [hsd]; exact h)).toNat : Int) = D.getD k 0) := fun k h => str_at D HZD.out k _
  have hdn : ((strOfNums D).toList == []) = false := by
    cases D with
    | nil => simp at hdl; omega
    | cons c r => exact str_ne c r
  obtain ⟨R, hR⟩ : ∃ R, R = qnm 16 D 0 := ⟨_, rfl⟩
  rw [← hR]
  have HR : Hid (R = qnm 16 (D.drop 0) 0) := hR
  clear hR
  go_enter Tryz.func100, Tryz.ntmps100
  go_wp2
  go_quiet (fail)
  go_wp2
  go_loopw [6, 7] (fun v i wr => ∃ (n : Int) (k : Nat), v = .int .u64 n ∧ i = .int .i64 (k : Int) ∧ 0 ≤ n ∧ n ≤ 18446744073709551615 ∧ k ≤ D.length ∧ Hid (R = qnm 16 (D.drop k) n) ∧ wr = w.drewN nq) (fun _ i _ => D.length - (intOf i).toNat)
  case atStart => exact ⟨0, 0, rfl, rfl, by omega, by omega, by omega, HR, rfl⟩
  case round =>
    obtain ⟨n, k, rfl, rfl, n0, n1, hkl, HQ, rfl⟩ := hrel
    by_cases hk : k < D.length
    · have hat := HA.out k hk
      obtain ⟨c0, c255⟩ := HZD.out k
      have HQ' := HQ.out
      rw [drop_at hk, qnm] at HQ'
      generalize D.getD k 0 = c at hat c0 c255 HQ'
      have q := fun W => rdigit_any c W c0 c255
      obtain ⟨d0, d99⟩ := dgt_bd c
      generalize dgt c = d at q d0 d99 HQ'
      have Q : Hid _ := q
      have HQ2 : Hid _ := HQ'
      clear HQ' HQ q HR
      by_cases hb : 16 ≤ d
      · have E : Hid (R = (0, false)) := by have := HQ2.out; rw [if_pos (Or.inl hb)] at this; exact this
        clear HQ2
        go_wp2_with fail
        refine Calls.mono (Q.out _) ?_
        rintro e w1 ⟨rfl, rfl⟩
        go_wp2
        go_ret2
        exact ⟨by rw [E.out]; rfl, below_drewN (Below.refl _ _) _⟩
      · by_cases ho : (18446744073709551615 - d) / 16 < n
        · have E : Hid (R = (0, false)) := by have := HQ2.out; rw [if_pos (Or.inr ho)] at this; exact this
          clear HQ2
          go_wp2_with fail
          refine Calls.mono (Q.out _) ?_
          rintro e w1 ⟨rfl, rfl⟩
          go_wp2
          go_ret2
          exact ⟨by rw [E.out]; rfl, below_drewN (Below.refl _ _) _⟩
        · have E : Hid (R = qnm 16 (D.drop (k + 1)) (n * 16 + d)) := by have := HQ2.out; rw [if_neg (by omega)] at this; exact this
          clear HQ2
          go_wp2_with fail
          refine Calls.mono (Q.out _) ?_
          rintro e w1 ⟨rfl, rfl⟩
          go_wp2
          go_roundw
          case rel => exact ⟨n * 16 + d, k + 1, rfl, by go_num, by omega, by omega, by omega, E, by first | rfl | trivial⟩
          case measure => simp [intOf]; omega
    · obtain rfl : k = D.length := by omega
      have E : Hid (R = (n, true)) := by show _ = _; rw [HQ.out, List.drop_eq_nil_of_le (Nat.le_refl _)]; rfl
      clear HQ HR
      go_wp2
      go_ret2
      exact ⟨by rw [E.out]; rfl, below_drewN (Below.refl _ _) _⟩

set_option maxHeartbeats 1000000 in
theorem rnum_16b (zs : List Int) (w : World) (hz : Hid (∀ i, 0 ≤ zs.getD i 0 ∧ zs.getD i 0 ≤ 255)) (hlen : (zs.length : Int) ≤ 100000000) (h1 : 2 < zs.length) (hv0 : zs.getD 0 0 = 48) (hv1 : zs.getD 1 0 = 88) :
    Calls Tryz.prog 100 #[.string (strOfNums zs)] w fun e w' => e = .returned (.tuple #[.int .u64 (qnm 16 (zs.drop 2) 0).1, .bool (qnm 16 (zs.drop 2) 0).2]) ∧ Below w.heap.size w w' := by
  have hsz := strOfNums_size zs
  have hat0 := str_at zs hz.out 0 (by rw [hsz]; omega)
  rw [hv0] at hat0
  have hat1 := str_at zs hz.out 1 (by rw [hsz]; omega)
  rw [hv1] at hat1
  have hex : (strOfNums zs).extract 2 zs.length = strOfNums (zs.drop 2) := by rw [str_cut, List.take_of_length_le (by simp)]
  have HZD : Hid (∀ i, 0 ≤ (zs.drop 2).getD i 0 ∧ (zs.drop 2).getD i 0 ≤ 255) := fun i => by rw [getD_drop']; exact hz.out _
  have hdl : (zs.drop 2).length = zs.length - 2 := List.length_drop
  generalize zs.drop 2 = D at hex HZD hdl
  have hsd := strOfNums_size D
  have HA : Hid (∀ k, (h : k < D.length) → (((strOfNums D)[k]'(by rw [hsd]; exact h)).toNat : Int) = D.getD k 0) := fun k h => str_at D HZD.out k _
  have hdn : ((strOfNums D).toList == []) = false := by
    cases D with
    | nil => simp at hdl; omega
    | cons c r => exact str_ne c r
  obtain ⟨R, hR⟩ : ∃ R, R = qnm 16 D 0 := ⟨_, rfl⟩
  rw [← hR]
  have HR : Hid (R = qnm 16 (D.drop 0) 0) := hR
  clear hR
  go_enter Tryz.func100, Tryz.ntmps100
  go_wp2
  go_quiet (fail)
  go_wp2
  go_loopw [6, 7] (fun v i wr => ∃ (n : Int) (k : Nat), v = .int .u64 n ∧ i = .int .i64 (k : Int) ∧ 0 ≤ n ∧ n ≤ 18446744073709551615 ∧ k ≤ D.length ∧ Hid (R = qnm 16 (D.drop k) n) ∧ wr = w.drewN nq) (fun _ i _ => D.length - (intOf i).toNat)
  case atStart => exact ⟨0, 0, rfl, rfl, by omega, by omega, by omega, HR, rfl⟩
  case round =>
    obtain ⟨n, k, rfl, rfl, n0, n1, hkl, HQ, rfl⟩ := hrel
    by_cases hk : k < D.length
    · have hat := HA.out k hk
      obtain ⟨c0, c255⟩ := HZD.out k
      have HQ' := HQ.out
      rw [drop_at hk, qnm] at HQ'
      generalize D.getD k 0 = c at hat c0 c255 HQ'
      have q := fun W => rdigit_any c W c0 c255
      obtain ⟨d0, d99⟩ := dgt_bd c
      generalize dgt c = d at q d0 d99 HQ'
      have Q : Hid _ := q
      have HQ2 : Hid _ := HQ'
      clear HQ' HQ q HR
      by_cases hb : 16 ≤ d
      · have E : Hid (R = (0, false)) := by have := HQ2.out; rw [if_pos (Or.inl hb)] at this; exact this
        clear HQ2
        go_wp2_with fail
        refine Calls.mono (Q.out _) ?_
        rintro e w1 ⟨rfl, rfl⟩
        go_wp2
        go_ret2
        exact ⟨by rw [E.out]; rfl, below_drewN (Below.refl _ _) _⟩
      · by_cases ho : (18446744073709551615 - d) / 16 < n
        · have E : Hid (R = (0, false)) := by have := HQ2.out; rw [if_pos (Or.inr ho)] at this; exact this
          clear HQ2
          go_wp2_with fail
          refine Calls.mono (Q.out _) ?_
          rintro e w1 ⟨rfl, rfl⟩
          go_wp2
          go_ret2
          exact ⟨by rw [E.out]; rfl, below_drewN (Below.refl _ _) _⟩
        · have E : Hid (R = qnm 16 (D.drop (k + 1)) (n * 16 + d)) := by have := HQ2.out; rw [if_neg (by omega)] at this; exact this
          clear HQ2
          go_wp2_with fail
          refine Calls.mono (Q.out _) ?_
          rintro e w1 ⟨rfl, rfl⟩
          go_wp2
          go_roundw
          case rel => exact ⟨n * 16 + d, k + 1, rfl, by go_num, by omega, by omega, by omega, E, by first | rfl | trivial⟩
          case measure => simp [intOf]; omega
    · obtain rfl : k = D.length := by omega
      have E : Hid (R = (n, true)) := by show _ = _; rw [HQ.out, List.drop_eq_nil_of_le (Nat.le_refl _)]; rfl
      clear HQ HR
      go_wp2
      go_ret2
      exact ⟨by rw [E.out]; rfl, below_drewN (Below.refl _ _) _⟩

set_option maxHeartbeats 400000 in
theorem rnum_nil (w : World) : Calls Tryz.prog 100 #[.string (strOfNums [])] w fun e w' => e = .returned (.tuple #[.int .u64 0, .bool false]) ∧ w = w' := by
  have hne : ((strOfNums []).toList == []) = true := by rw [str_list]; rfl
  have hsz : (strOfNums []).size = 0 := strOfNums_size []
  generalize strOfNums [] = S at hne hsz
  go_enter Tryz.func100, Tryz.ntmps100
  go_wp2
  refine wp_loop_rounds 1 ?_
  rw [rounds_succ]
  go_wp2
  go_ret2
  exact ⟨rfl, rfl⟩

theorem rnum_any (zs : List Int) (w : World) (hz : Hid (∀ i, 0 ≤ zs.getD i 0 ∧ zs.getD i 0 ≤ 255)) (hlen : (zs.length : Int) ≤ 100000000) :
    Calls Tryz.prog 100 #[.string (strOfNums zs)] w fun e w' => e = .returned (.tuple #[.int .u64 (qnum zs).1, .bool (qnum zs).2]) ∧ Below w.heap.size w w' := by
  by_cases h0 : zs = []
  · subst h0
    exact (rnum_nil w).mono fun e w' ⟨h1, h2⟩ => ⟨h1, h2 ▸ Below.refl _ _⟩
  have hp : 0 < zs.length := List.length_pos_iff.2 h0
  unfold qnum
  by_cases h1 : zs.length = 1
  · rw [if_neg (by omega), if_neg (by omega), if_neg h0]
    exact rnum_10a zs w hz hlen hp h1
  by_cases hv : zs.getD 0 0 = 48
  · by_cases h2 : zs.length = 2
    · rw [if_neg (by omega), if_pos ⟨by omega, hv⟩]
      exact rnum_8a zs w hz hlen h2 hv
    · by_cases hx : zs.getD 1 0 = 120
      · rw [if_pos ⟨by omega, hv, Or.inl hx⟩]
        exact rnum_16a zs w hz hlen (by omega) hv hx
      by_cases hX : zs.getD 1 0 = 88
      · rw [if_pos ⟨by omega, hv, Or.inr hX⟩]
        exact rnum_16b zs w hz hlen (by omega) hv hX
      rw [if_neg (by omega), if_pos ⟨by omega, hv⟩]
      exact rnum_8b zs w hz hlen (by omega) hv (by simpa using hx) (by simpa using hX)
  · rw [if_neg (by omega), if_neg (by omega), if_neg h0]
    by_cases h2 : zs.length = 2
    · exact rnum_10b zs w hz hlen hp h2 (by simpa using hv)
    · exact rnum_10c zs w hz hlen hp (by omega) (by simpa using hv)

theorem enc_1 (c : Int) (h0 : 0 ≤ c) (h1 : c < 128) : Utf8.encode c = strOfNums [c] := by
  have hv : Utf8.valid c = true := by unfold Utf8.valid; simp; omega
  unfold Utf8.encode
  rw [hv]
  simp only [if_true]
  rw [if_pos (by omega)]
  rfl

theorem str_app (a b : List Int) : strOfNums a ++ strOfNums b = strOfNums (a ++ b) := by
  unfold strOfNums
  rw [ByteArray.mk_append_mk, List.map_append]

theorem run_add (w : World) (a b : List Int) (h : a.length + b.length ≤ 9223372036854775807) : (Op.stringOp .add (strOfNums a) (strOfNums b)).run Tryz.prog w = .ok (.string (strOfNums (a ++ b))) w := by
  rw [run_string_add_sum w _ _ (by rw [strOfNums_size, strOfNums_size]; exact h), str_app]

end Go.Proofs.YtcnjjhdmnagkgaaGreatDoor
