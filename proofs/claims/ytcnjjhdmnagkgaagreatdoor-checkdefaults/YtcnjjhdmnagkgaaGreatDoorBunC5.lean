/- Put together by a program out of these texts of mine: NPa, PSh, NPe, NPb, TMem, PTxt0, PTxt1, KMath, KSm, KDef. -/
import Derived.Lib.OthersKept
import Derived.Shelf.Small.Wraps
import Derived.Shelf.LaysM
import Derived.Shelf.Strconv.Clone
import Derived.Shelf.Strings.LastIndex
import Derived.Test.YtcnjjhdmnagkgaaGreatDoorProg
import Derived.Deep.RegionWith
import Derived.Deep.Slices
import Derived.Test.YtcnjjhdmnagkgaaGreatDoorBunC2
import Derived.Test.YtcnjjhdmnagkgaaGreatDoorBunC3
import Derived.Test.YtcnjjhdmnagkgaaGreatDoorBunC4

namespace Go.Proofs.YtcnjjhdmnagkgaaGreatDoor
open Go.RowKit
set_option linter.unusedVariables false
set_option linter.unusedSimpArgs false

def NTab (_ : World) : Prop := True

theorem dec_wide (S : ByteArray) (p : Nat) (h : p < S.size) (ha : 128 ≤ (S.get! (p + 0)).toNat) : p + (Utf8.decode S p).2 ≤ S.size ∧ ∀ j, j < (Utf8.decode S p).2 → 128 ≤ (S.get! (p + j)).toNat := by
  have one : ∀ j, j < 1 → 128 ≤ (S.get! (p + j)).toNat := fun j hj => by rw [show j = 0 by omega]; exact ha
  have hn : ¬ (S.get! (p + 0)).toNat < 128 := by omega
  simp only [Utf8.decode, hn, if_false]
  split
  · rename_i h1
    simp only [Bool.and_eq_true, decide_eq_true_eq, beq_iff_eq] at h1
    split
    · refine ⟨by show p + 2 ≤ _; omega, fun j hj => ?_⟩
      have hj : j < 2 := hj
      rcases (show j = 0 ∨ j = 1 by omega) with rfl | rfl <;> omega
    · exact ⟨by show p + 1 ≤ _; omega, one⟩
  · split
    · rename_i h1
      simp only [Bool.and_eq_true, decide_eq_true_eq, beq_iff_eq] at h1
      split
      · refine ⟨by show p + 3 ≤ _; omega, fun j hj => ?_⟩
        have hj : j < 3 := hj
        rcases (show j = 0 ∨ j = 1 ∨ j = 2 by omega) with rfl | rfl | rfl <;> omega
      · exact ⟨by show p + 1 ≤ _; omega, one⟩
    · split
      · rename_i h1
        simp only [Bool.and_eq_true, decide_eq_true_eq, beq_iff_eq] at h1
        split
        · refine ⟨by show p + 4 ≤ _; omega, fun j hj => ?_⟩
          have hj : j < 4 := hj
          rcases (show j = 0 ∨ j = 1 ∨ j = 2 ∨ j = 3 by omega) with rfl | rfl | rfl | rfl <;> omega
        · exact ⟨by show p + 1 ≤ _; omega, one⟩
      · exact ⟨by show p + 1 ≤ _; omega, one⟩

theorem dec_at (s : List Int) (hz : ∀ i, 0 ≤ s.getD i 0 ∧ s.getD i 0 ≤ 255) (k : Nat) (hk : k < s.length) :
    (s.getD k 0 < 128 ∧ ((Utf8.decode (strOfNums s) k).1 : Int) = s.getD k 0 ∧ (Utf8.decode (strOfNums s) k).2 = 1) ∨
    (128 ≤ s.getD k 0 ∧ 128 ≤ ((Utf8.decode (strOfNums s) k).1 : Int) ∧ ((Utf8.decode (strOfNums s) k).1 : Int) ≤ 2147483647 ∧ 1 ≤ (Utf8.decode (strOfNums s) k).2 ∧ k + (Utf8.decode (strOfNums s) k).2 ≤ s.length ∧ ∀ j, k ≤ j → j < k + (Utf8.decode (strOfNums s) k).2 → 128 ≤ s.getD j 0) := by
  have hsz := strOfNums_size s
  have hk' : k < (strOfNums s).size := by rw [hsz]; exact hk
  have hat := str_at s hz k hk'
  by_cases ha : ((strOfNums s)[k]'hk').toNat < 128
  · left
    rw [decode_ascii _ k hk' ha]
    exact ⟨by omega, hat, rfl⟩
  · right
    obtain ⟨h1, h2⟩ := decode_high _ k hk' (by omega)
    have h3 := decode_le (strOfNums s) k
    obtain ⟨h4, h5⟩ := dec_wide _ k hk' (by rw [get_at _ k hk']; omega)
    rw [hsz] at h4
    refine ⟨by omega, by omega, by omega, h2, h4, fun j hj1 hj2 => ?_⟩
    have := h5 (j - k) (by omega)
    rw [show k + (j - k) = j by omega] at this
    have hj' : j < (strOfNums s).size := by omega
    have e := get_at (strOfNums s) j hj'
    rw [Nat.add_zero] at e
    rw [e] at this
    have := str_at s hz j hj'
    omega

def nlet (c : Int) : Bool := decide ((97 ≤ c ∧ c ≤ 122) ∨ (65 ≤ c ∧ c ≤ 90) ∨ c = 95)

def nok (s : List Int) (i : Nat) : Bool := nlet (s.getD i 0) || (lnumb (s.getD i 0) && decide (0 < i))

theorem nident_nok (s : List Int) (h1 : 1 ≤ s.length) (h2 : s.length ≤ 200) : nident s = decide (∀ i, i < s.length → nok s i = true) := by
  rw [Bool.eq_iff_iff, decide_eq_true_eq]
  unfold nident
  simp only [Bool.and_eq_true, List.all_eq_true, decide_eq_true_eq, Bool.not_eq_true']
  constructor
  · rintro ⟨⟨ha, _⟩, hb⟩ i hi
    have := ha (s.getD i 0) (by rw [show s.getD i 0 = s[i] by simp [List.getD, hi]]; exact List.getElem_mem hi)
    unfold lletter at this
    unfold nok nlet lnumb
    simp only [decide_eq_true_eq] at this
    simp only [Bool.or_eq_true, Bool.and_eq_true, decide_eq_true_eq]
    by_cases h0 : i = 0
    · subst h0
      unfold lnumb at hb
      rw [decide_eq_false_iff_not] at hb
      omega
    · omega
  · intro h
    refine ⟨⟨fun c hc => ?_, ⟨h1, h2⟩⟩, ?_⟩
    · obtain ⟨i, hi, rfl⟩ := List.getElem_of_mem hc
      have := h i hi
      rw [show s[i] = s.getD i 0 by simp [List.getD, hi]]
      unfold nok nlet lnumb at this
      unfold lletter
      simp only [Bool.or_eq_true, Bool.and_eq_true, decide_eq_true_eq] at this ⊢
      omega
    · have := h 0 (by omega)
      unfold nok nlet at this
      unfold lnumb at this ⊢
      rw [decide_eq_false_iff_not]
      simp only [Bool.or_eq_true, Bool.and_eq_true, decide_eq_true_eq] at this
      omega

def nsml (c : Int) : Bool := decide (97 ≤ c ∧ c ≤ 122)

set_option maxHeartbeats 1000000 in
theorem psmall_any (c : Int) (w : World) (h0 : 0 ≤ c) (h1 : c ≤ 2147483647) :
    Calls Tryz.prog 141 #[.int .i32 c] w fun e w' => e = .returned (.bool (nsml c)) ∧ w = w' := by
  rcases (show (97 ≤ c ∧ c ≤ 122) ∨ (c < 97) ∨ (122 < c) by omega) with h | h | h
  · have E : Hid (nsml c = true) := decide_eq_true (by omega)
    obtain ⟨p1, p2⟩ := h
    go_enter Tryz.func141, Tryz.ntmps141
    go_wp2
    go_ret
    exact ⟨by rw [E.out]; first | rfl | exact ret_bool (by simp; omega), rfl⟩
  · have E : Hid (nsml c = false) := decide_eq_false (by omega)
    go_enter Tryz.func141, Tryz.ntmps141
    go_wp2
    go_ret
    exact ⟨by rw [E.out]; first | rfl | exact ret_bool (by simp; omega), rfl⟩
  · have E : Hid (nsml c = false) := decide_eq_false (by omega)
    have p1 : 97 ≤ c := by omega
    go_enter Tryz.func141, Tryz.ntmps141
    go_wp2
    go_ret
    exact ⟨by rw [E.out]; first | rfl | exact ret_bool (by simp; omega), rfl⟩

set_option maxHeartbeats 1000000 in
theorem pndigit_any (c : Int) (w : World) (h0 : 0 ≤ c) (h1 : c ≤ 2147483647) :
    Calls Tryz.prog 98 #[.int .i32 c] w fun e w' => e = .returned (.bool (lnumb c)) ∧ w = w' := by
  rcases (show (48 ≤ c ∧ c ≤ 57) ∨ (c < 48) ∨ (57 < c) by omega) with h | h | h
  · have E : Hid (lnumb c = true) := decide_eq_true (by omega)
    obtain ⟨p1, p2⟩ := h
    go_enter Tryz.func98, Tryz.ntmps98
    go_wp2
    go_ret
    exact ⟨by rw [E.out]; first | rfl | exact ret_bool (by simp; omega), rfl⟩
  · have E : Hid (lnumb c = false) := decide_eq_false (by omega)
    go_enter Tryz.func98, Tryz.ntmps98
    go_wp2
    go_ret
    exact ⟨by rw [E.out]; first | rfl | exact ret_bool (by simp; omega), rfl⟩
  · have E : Hid (lnumb c = false) := decide_eq_false (by omega)
    have p1 : 48 ≤ c := by omega
    go_enter Tryz.func98, Tryz.ntmps98
    go_wp2
    go_ret
    exact ⟨by rw [E.out]; first | rfl | exact ret_bool (by simp; omega), rfl⟩

set_option maxHeartbeats 1000000 in
theorem pnlet_any (c : Int) (w : World) (h0 : 0 ≤ c) (h1 : c ≤ 2147483647) :
    Calls Tryz.prog 97 #[.int .i32 c] w fun e w' => e = .returned (.bool (nlet c)) ∧ w = w' := by
  by_cases k95 : c = 95
  · have E : Hid (nlet c = true) := decide_eq_true (by omega)
    subst k95
    go_enter Tryz.func97, Tryz.ntmps97
    go_wp2
    go_ret
    exact ⟨by rw [E.out]; first | rfl | exact ret_bool (by simp; omega), rfl⟩
  have e95 : (c == 95) = false := by simpa using k95
  have q := fun W => psmall_any c W h0 h1
  rcases (show (97 ≤ c ∧ c ≤ 122) ∨ (65 ≤ c ∧ c ≤ 90) ∨ (c < 65) ∨ (90 < c ∧ c < 97) ∨ (122 < c) by omega) with h | h | h | h | h
  · have E : Hid (nlet c = true) := decide_eq_true (by omega)
    rw [show nsml c = true from decide_eq_true h] at q
    have Q : Hid _ := q
    clear q h k95
    go_enter Tryz.func97, Tryz.ntmps97
    go_wp2_with fail
    refine Calls.mono (Q.out _) ?_
    rintro e w1 ⟨rfl, rfl⟩
    go_wp2
    go_ret
    exact ⟨by rw [E.out]; first | rfl | exact ret_bool (by simp; omega), rfl⟩
  · have E : Hid (nlet c = true) := decide_eq_true (by omega)
    rw [show nsml c = false from decide_eq_false (by omega)] at q
    obtain ⟨p1, p2⟩ := h
    have Q : Hid _ := q
    clear q k95
    go_enter Tryz.func97, Tryz.ntmps97
    go_wp2_with fail
    refine Calls.mono (Q.out _) ?_
    rintro e w1 ⟨rfl, rfl⟩
    go_wp2
    go_ret
    exact ⟨by rw [E.out]; first | rfl | exact ret_bool (by simp; omega), rfl⟩
  · have E : Hid (nlet c = false) := decide_eq_false (by omega)
    rw [show nsml c = false from decide_eq_false (by omega)] at q
    have Q : Hid _ := q
    clear q k95
    go_enter Tryz.func97, Tryz.ntmps97
    go_wp2_with fail
    refine Calls.mono (Q.out _) ?_
    rintro e w1 ⟨rfl, rfl⟩
    go_wp2
    go_ret
    exact ⟨by rw [E.out]; first | rfl | exact ret_bool (by simp; omega), rfl⟩
  · have E : Hid (nlet c = false) := decide_eq_false (by omega)
    rw [show nsml c = false from decide_eq_false (by omega)] at q
    have p1 : 65 ≤ c := by omega
    have p2 : 90 < c := h.1
    have Q : Hid _ := q
    clear q k95 h
    go_enter Tryz.func97, Tryz.ntmps97
    go_wp2_with fail
    refine Calls.mono (Q.out _) ?_
    rintro e w1 ⟨rfl, rfl⟩
    go_wp2
    go_ret
    exact ⟨by rw [E.out]; first | rfl | exact ret_bool (by simp; omega), rfl⟩
  · have E : Hid (nlet c = false) := decide_eq_false (by omega)
    rw [show nsml c = false from decide_eq_false (by omega)] at q
    have p1 : 65 ≤ c := by omega
    have p2 : 90 < c := by omega
    have Q : Hid _ := q
    clear q k95 h
    go_enter Tryz.func97, Tryz.ntmps97
    go_wp2_with fail
    refine Calls.mono (Q.out _) ?_
    rintro e w1 ⟨rfl, rfl⟩
    go_wp2
    go_ret
    exact ⟨by rw [E.out]; first | rfl | exact ret_bool (by simp; omega), rfl⟩

end Go.Proofs.YtcnjjhdmnagkgaaGreatDoor

namespace Go.Proofs.YtcnjjhdmnagkgaaGreatDoor
open Go.Shelf

def Sh.lays103_ren : Go.Shelf.Ren := ⟨fun | 103 => 170 | 210 => 213 | 206 => 250 | n => n, fun | 9 => 9 | 4 => 4 | 24 => 70 | 3 => 3 | n => n, fun | n => n⟩

theorem Sh.lays103 : Go.Proofs.Lays.n103 Tryz.prog Sh.lays103_ren := {
  mixed := by kernel_rfl
  f103 := Tryz.func170.trans (congrArg some (by kernel_rfl))
  f206 := Tryz.func250.trans (congrArg some (by kernel_rfl))
  f210 := Tryz.func213.trans (congrArg some (by kernel_rfl))
  t3 := Tryz.underlying3
  a3 := Tryz.isAgg3
  z3 := Tryz.sizeOf3
  v3 := Tryz.zeroValue3
  t4 := Tryz.underlying4
  a4 := Tryz.isAgg4
  z4 := Tryz.sizeOf4
  v4 := Tryz.zeroValue4
  t9 := Tryz.underlying9
  a9 := Tryz.isAgg9
  z9 := Tryz.sizeOf9
  v9 := Tryz.zeroValue9
  t24 := Tryz.underlying70
  a24 := Tryz.isAgg70
  z24 := Tryz.sizeOf70
  v24 := Tryz.zeroValue70 }

open Go.RowKit in
theorem Sh.strings_CutPrefix (s p : ByteArray) (w : World) :
    Calls Tryz.prog 170 #[.string s, .string p] w fun e w' => e = .returned (.tuple #[.string ⟨(Lib.trimPrefix s.data.toList p.data.toList).toArray⟩, .bool (Lib.hasPrefix s.data.toList p.data.toList)]) ∧ w' = w := Any.strings_CutPrefix Sh.lays103 s p w

def Sh.laysM316_ren : Go.Shelf.Ren := ⟨fun | 316 => 41 | n => n, fun | 9 => 9 | 3 => 3 | 4 => 4 | 37 => 32 | 0 => 0 | 127 => 165 | 5 => 5 | n => n, fun | n => n⟩

theorem Sh.laysM316 : Go.Proofs.LaysM.n316 Tryz.prog Sh.laysM316_ren := {
  mixed := by kernel_rfl
  f316 := Tryz.func41.trans (congrArg some (by kernel_rfl))
  t0 := Tryz.underlying0
  a0 := Tryz.isAgg0
  z0 := Tryz.sizeOf0
  v0 := Tryz.zeroValue0
  t3 := Tryz.underlying3
  a3 := Tryz.isAgg3
  z3 := Tryz.sizeOf3
  v3 := Tryz.zeroValue3
  t4 := Tryz.underlying4
  a4 := Tryz.isAgg4
  z4 := Tryz.sizeOf4
  v4 := Tryz.zeroValue4
  t9 := Tryz.underlying9
  a9 := Tryz.isAgg9
  z9 := Tryz.sizeOf9
  v9 := Tryz.zeroValue9
  t37 := Tryz.underlying32
  a37 := Tryz.isAgg32
  z37 := Tryz.sizeOf32
  v37 := Tryz.zeroValue32
  t127 := Tryz.underlying165
  a127 := Tryz.isAgg165
  z127 := Tryz.sizeOf165
  v127 := Tryz.zeroValue165
  t5 := Tryz.underlying5
  a5 := Tryz.isAgg5
  z5 := Tryz.sizeOf5
  v5 := Tryz.zeroValue5
  i0 := by kernel_rfl
  i3 := by kernel_rfl
  i4 := by kernel_rfl
  i5 := by kernel_rfl
  i9 := by kernel_rfl
  i37 := by kernel_rfl
  i127 := by kernel_rfl }

open Go.RowKit in
theorem Sh.stringslite_Clone (s : ByteArray) (w : World) (hlim : s.size ≤ 281474976710656) :
    Calls Tryz.prog 41 #[.string s] w fun e w' => e = .returned (.string s) ∧ Below w.heap.size w w' := Any.stringslite_Clone Sh.laysM316 s w hlim

def Sh.lays148_ren : Go.Shelf.Ren := ⟨fun | 148 => 255 | 222 => 268 | 223 => 269 | 269 => 286 | n => n, fun | 9 => 9 | 3 => 3 | 4 => 4 | 5 => 5 | 146 => 353 | 51 => 275 | 46 => 134 | n => n, fun | n => n⟩

theorem Sh.lays148 : Go.Proofs.Lays.n148 Tryz.prog Sh.lays148_ren := {
  mixed := by kernel_rfl
  f148 := Tryz.func255.trans (congrArg some (by kernel_rfl))
  f222 := Tryz.func268.trans (congrArg some (by kernel_rfl))
  f223 := Tryz.func269.trans (congrArg some (by kernel_rfl))
  f269 := Tryz.func286.trans (congrArg some (by kernel_rfl))
  t3 := Tryz.underlying3
  a3 := Tryz.isAgg3
  z3 := Tryz.sizeOf3
  v3 := Tryz.zeroValue3
  t4 := Tryz.underlying4
  a4 := Tryz.isAgg4
  z4 := Tryz.sizeOf4
  v4 := Tryz.zeroValue4
  t5 := Tryz.underlying5
  a5 := Tryz.isAgg5
  z5 := Tryz.sizeOf5
  v5 := Tryz.zeroValue5
  t9 := Tryz.underlying9
  a9 := Tryz.isAgg9
  z9 := Tryz.sizeOf9
  v9 := Tryz.zeroValue9
  t46 := Tryz.underlying134
  a46 := Tryz.isAgg134
  z46 := Tryz.sizeOf134
  v46 := Tryz.zeroValue134
  t51 := Tryz.underlying275
  a51 := Tryz.isAgg275
  z51 := Tryz.sizeOf275
  v51 := Tryz.zeroValue275
  t146 := Tryz.underlying353
  a146 := Tryz.isAgg353
  z146 := Tryz.sizeOf353
  v146 := Tryz.zeroValue353 }

open Go.RowKit Go.Lib in
theorem Sh.strings_LastIndex_one (s sub : ByteArray) (h1 : sub.size = 1) (hs : s.size < 4611686018427387904) (w : World) :
    Calls Tryz.prog 255 #[.string s, .string sub] w fun e w' => e = .returned (.int .i64 (Lib.lastIndexByte s ((sub[0]'(by omega)).toNat : Int))) ∧ w' = w := Any.strings_LastIndex_one Sh.lays148 s sub h1 hs w

end Go.Proofs.YtcnjjhdmnagkgaaGreatDoor

namespace Go.Proofs.YtcnjjhdmnagkgaaGreatDoor
open Go.RowKit
set_option linter.unusedVariables false
set_option linter.unusedSimpArgs false

set_option maxHeartbeats 400000 in
theorem pnclone_any (S : ByteArray) (w : World) (hlen : S.size ≤ 1000000) :
    Calls Tryz.prog 16 #[.string S] w fun e w' => e = .returned (.string S) ∧ Below w.heap.size w w' := by
  have Q : Hid _ := Sh.stringslite_Clone S w (by omega)
  go_enter Tryz.func16, Tryz.ntmps16
  go_wp2_with fail
  refine Calls.mono Q.out ?_
  rintro e w1 ⟨rfl, hb⟩
  go_wp2
  go_ret
  exact ⟨rfl, hb⟩

set_option maxHeartbeats 1000000 in
theorem pjoin_any (a b : List Int) (w : World) (hT : Hid (NTab w)) (ha : Hid (byts a)) (hb : Hid (byts b)) (hl : a.length ≤ 10000) (hl2 : b.length ≤ 10000) :
    Calls Tryz.prog 115 #[.string (strOfNums a), .string (strOfNums b)] w fun e w' => e = .returned (.string (strOfNums (njoin a b))) ∧ Below w.heap.size w w' := by
  unfold njoin
  by_cases h : a = []
  · rw [if_pos h]
    have hne : ((strOfNums a).toList == []) = true := by rw [h, str_list]; rfl
    have Q : Hid _ := fun W => pnclone_any (strOfNums b) W (by rw [strOfNums_size]; omega)
    generalize strOfNums a = A at hne
    generalize strOfNums b = B at Q
    go_enter Tryz.func115, Tryz.ntmps115
    go_wp2_with fail
    refine Calls.mono (Q.out _) ?_
    rintro e w1 ⟨rfl, hb1⟩
    go_wp2
    go_ret
    exact ⟨rfl, hb1⟩
  · rw [if_neg h]
    have hne : ((strOfNums a).toList == []) = false := by
      cases a with
      | nil => exact absurd rfl h
      | cons c r => exact str_ne c r
    have h1 : ∀ W, (Op.stringOp .add (strOfNums a) { data := #[46] }).run Tryz.prog W = .ok (.string (strOfNums (a ++ [46]))) W := fun W => run_add W a [46] (by simp; omega)
    have h2 : ∀ W, (Op.stringOp .add (strOfNums (a ++ [46])) (strOfNums b)).run Tryz.prog W = .ok (.string (strOfNums (a ++ [46] ++ b))) W := fun W => run_add W (a ++ [46]) b (by simp; omega)
    clear h
    generalize strOfNums (a ++ [46] ++ b) = R at h2
    generalize strOfNums (a ++ [46]) = AP at h1 h2
    generalize strOfNums a = A at hne h1
    generalize strOfNums b = B at h2
    go_enter Tryz.func115, Tryz.ntmps115
    go_wp2
    go_ret
    exact ⟨rfl, Below.refl _ _⟩

set_option maxHeartbeats 1000000 in
theorem pnrun_any (s : List Int) (w : World) (hz : Hid (∀ i, 0 ≤ s.getD i 0 ∧ s.getD i 0 ≤ 255)) (hlen : (s.length : Int) ≤ 9223372036854775807) :
    Calls Tryz.prog 58 #[.string (strOfNums s)] w fun e w' => ∃ m : Nat, e = .returned (.int .i64 (m : Int)) ∧ m ≤ s.length ∧ decide (∀ i, i < s.length → nok s i = true) = decide (m = s.length) ∧ Below w.heap.size w w' := by
  have hsz := strOfNums_size s
  have HD : Hid _ := dec_at s hz.out
  generalize strOfNums s = S at hsz HD
  go_enter Tryz.func58, Tryz.ntmps58
  go_wp2
  refine wp_scope_straight ?_
  go_wp2
  go_step3
  rename_i hK
  refine hK _ _ ?_
  clear hK
  go_wp2
  go_loopw [3] (fun v wr => ∃ k : Nat, v = .int .i64 (s.length : Int) ∧ wr = w.iter S k ∧ k ≤ s.length ∧ Hid (∀ j, j < k → nok s j = true)) (fun _ wr => s.length - wr.iterPos w.heap.size)
  case atStart => exact ⟨0, rfl, rfl, by omega, fun j hj => absurd hj (by omega)⟩
  case round =>
    obtain ⟨k, rfl, rfl, hk, HJ⟩ := hrel
    by_cases hkl : k < s.length
    · have hnx : ∀ ty, (Instr.next (.pointer (some ⟨w.heap.size, 0, none⟩)) true ty).run Tryz.prog (w.iter S k) = _ := fun ty => run_next_any w S k ty (by omega)
      have hc0 := (hz.out k).1
      have hc1 := (hz.out k).2
      rcases HD.out k hkl with ⟨h1, h2, h3⟩ | ⟨h1, h2, h3, h4, h5, h6⟩
      · rw [h2, h3] at hnx
        clear h2 h3
        have hNK : nok s k = (nlet (s.getD k 0) || (lnumb (s.getD k 0) && decide (0 < k))) := rfl
        generalize s.getD k 0 = c at hnx hc0 hc1 hNK h1
        have q1 := fun W => pnlet_any c W hc0 (by omega)
        have q2 := fun W => pndigit_any c W hc0 (by omega)
        have c31 : c ≤ 2147483647 := by omega
        cases hl : nlet c with
        | true =>
          rw [hl] at q1 hNK
          rw [Bool.true_or] at hNK
          have Q1 : Hid _ := q1
          have HJ2 : Hid (∀ j, j < k + 1 → nok s j = true) := fun j hj => by
            by_cases e : j = k
            · rw [e]; exact hNK
            · exact HJ.out j (by omega)
          clear q1 q2 hl hNK HJ
          go_wp2_with fail
          refine Calls.mono (Q1.out _) ?_
          rintro e w1 ⟨rfl, rfl⟩
          go_wp2
          go_roundw
          case rel => first | exact ⟨k + 1, rfl, rfl, by omega, HJ2⟩ | ((repeat apply Exists.intro); exact ⟨⟨k + 1, rfl, rfl, by omega, HJ2⟩, rfl⟩)
          case measure => first | (simp; done) | (simp; omega)
        | false =>
          rw [hl, Bool.false_or] at hNK
          rw [hl] at q1
          have Q1 : Hid _ := q1
          cases hd : lnumb c with
          | true =>
            rw [hd, Bool.true_and] at hNK
            rw [hd] at q2
            have Q2 : Hid _ := q2
            by_cases k0 : 0 < k
            · rw [decide_eq_true k0] at hNK
              have kk : (0 : Int) < (k : Int) := by omega
              have HJ2 : Hid (∀ j, j < k + 1 → nok s j = true) := fun j hj => by
                by_cases e : j = k
                · rw [e]; exact hNK
                · exact HJ.out j (by omega)
              clear q1 q2 hl hd hNK HJ
              go_wp2_with fail
              refine Calls.mono (Q1.out _) ?_
              rintro e w1 ⟨rfl, rfl⟩
              go_wp2_with fail
              refine Calls.mono (Q2.out _) ?_
              rintro e w1 ⟨rfl, rfl⟩
              go_wp2
              go_roundw
              case rel => first | exact ⟨k + 1, rfl, rfl, by omega, HJ2⟩ | ((repeat apply Exists.intro); exact ⟨⟨k + 1, rfl, rfl, by omega, HJ2⟩, rfl⟩)
              case measure => first | (simp; done) | (simp; omega)
            · rw [decide_eq_false k0] at hNK
              obtain rfl : k = 0 := by omega
              have E : Hid (decide (∀ i, i < s.length → nok s i = true) = decide (0 = s.length)) := by
                show _ = _
                rw [decide_eq_false (p := 0 = s.length) (by omega), decide_eq_false (fun h => by have := h 0 hkl; rw [hNK] at this; simp at this)]
              clear q1 q2 hl hd hNK HJ
              go_wp2_with fail
              refine Calls.mono (Q1.out _) ?_
              rintro e w1 ⟨rfl, rfl⟩
              go_wp2_with fail
              refine Calls.mono (Q2.out _) ?_
              rintro e w1 ⟨rfl, rfl⟩
              go_wp2
              simp only [Exit.noGoto]
              go_ret
              exact ⟨0, rfl, by omega, E.out, (Below.refl _ _).alloc (Nat.le_refl _) _⟩
          | false =>
            rw [hd, Bool.false_and] at hNK
            rw [hd] at q2
            have Q2 : Hid _ := q2
            have E : Hid (decide (∀ i, i < s.length → nok s i = true) = decide (k = s.length)) := by
              show _ = _
              rw [decide_eq_false (p := k = s.length) (by omega), decide_eq_false (fun h => by have := h k hkl; rw [hNK] at this; simp at this)]
            clear q1 q2 hl hd hNK HJ
            go_wp2_with fail
            refine Calls.mono (Q1.out _) ?_
            rintro e w1 ⟨rfl, rfl⟩
            go_wp2_with fail
            refine Calls.mono (Q2.out _) ?_
            rintro e w1 ⟨rfl, rfl⟩
            go_wp2
            simp only [Exit.noGoto]
            go_ret
            exact ⟨k, rfl, by omega, E.out, (Below.refl _ _).alloc (Nat.le_refl _) _⟩
      · generalize ((Utf8.decode S k).1 : Int) = c at hnx h2 h3
        generalize (Utf8.decode S k).2 = d at hnx h4 h5 h6
        have q1 := fun W => pnlet_any c W (by omega) (by omega)
        have q2 := fun W => pndigit_any c W (by omega) (by omega)
        rw [show nlet c = false from decide_eq_false (by omega)] at q1
        rw [show lnumb c = false from decide_eq_false (by omega)] at q2
        have hNK : nok s k = false := by
          unfold nok
          rw [show nlet (s.getD k 0) = false from decide_eq_false (by omega), show lnumb (s.getD k 0) = false from decide_eq_false (by omega)]
          rfl
        have E : Hid (decide (∀ i, i < s.length → nok s i = true) = decide (k = s.length)) := by
          show _ = _
          rw [decide_eq_false (p := k = s.length) (by omega), decide_eq_false (fun h => by have := h k hkl; rw [hNK] at this; simp at this)]
        have Q1 : Hid _ := q1
        have Q2 : Hid _ := q2
        clear q1 q2 hNK HJ h6 h1 h4 h5
        go_wp2_with fail
        refine Calls.mono (Q1.out _) ?_
        rintro e w1 ⟨rfl, rfl⟩
        go_wp2_with fail
        refine Calls.mono (Q2.out _) ?_
        rintro e w1 ⟨rfl, rfl⟩
        go_wp2
        simp only [Exit.noGoto]
        go_ret
        exact ⟨k, rfl, by omega, E.out, (Below.refl _ _).alloc (Nat.le_refl _) _⟩
    · obtain rfl : k = s.length := by omega
      have hnx : ∀ ty, (Instr.next (.pointer (some ⟨w.heap.size, 0, none⟩)) true ty).run Tryz.prog (w.iter S s.length) = _ := fun ty => run_next_end w S s.length ty (by omega)
      have E : Hid (decide (∀ i, i < s.length → nok s i = true) = true) := decide_eq_true HJ.out
      clear HJ
      go_wp2
      simp only [Exit.noGoto]
      go_ret
      exact ⟨s.length, rfl, by omega, by rw [E.out, decide_eq_true rfl], (Below.refl _ _).alloc (Nat.le_refl _) _⟩

set_option maxHeartbeats 1000000 in
theorem pident_any (s : List Int) (w : World) (hT : Hid (NTab w)) (hz : Hid (∀ i, 0 ≤ s.getD i 0 ∧ s.getD i 0 ≤ 255)) (hlen : (s.length : Int) ≤ 9223372036854775807) :
    Calls Tryz.prog 26 #[.string (strOfNums s)] w fun e w' => e = .returned (.bool (nident s)) ∧ Below w.heap.size w w' := by
  have hsz := strOfNums_size s
  by_cases h0 : s = []
  · have hne : ((strOfNums s).toList == []) = true := by rw [h0, str_list]; rfl
    have E : Hid (nident s = false) := nident_big s (.inr (by rw [h0]; rfl))
    generalize strOfNums s = S at hsz hne
    go_enter Tryz.func26, Tryz.ntmps26
    go_wp2
    go_ret
    exact ⟨by rw [E.out]; first | rfl | exact ret_bool (by simp [hne]), Below.refl _ _⟩
  · have hne : ((strOfNums s).toList == []) = false := by
      cases s with
      | nil => exact absurd rfl h0
      | cons c r => exact str_ne c r
    have hl : 0 < s.length := List.length_pos_iff.2 h0
    by_cases h2 : s.length ≤ 200
    · have h2' : (s.length : Int) ≤ 200 := by omega
      have E := nident_nok s hl h2
      have q := fun W => pnrun_any s W hz hlen
      rw [← E] at q
      have Q : Hid _ := q
      clear q E
      generalize nident s = b at Q
      generalize strOfNums s = S at hsz hne Q
      go_enter Tryz.func26, Tryz.ntmps26
      go_wp2_with fail
      refine Calls.mono (Q.out _) ?_
      rintro e w1 ⟨m, rfl, hm, hb, hB⟩
      by_cases e : m = s.length
      · subst e
        rw [decide_eq_true rfl] at hb
        have heq : ((s.length : Int) == (s.length : Int)) = true := by simp
        go_wp2
        go_ret
        exact ⟨by rw [hb]; first | rfl | exact ret_bool (by simp), hB⟩
      · rw [decide_eq_false e] at hb
        have heq : ((m : Int) == (s.length : Int)) = false := by simp; omega
        go_wp2
        go_ret
        exact ⟨by rw [hb]; first | rfl | exact ret_bool (by simp; omega), hB⟩
    · have h2' : ¬ (s.length : Int) ≤ 200 := by omega
      have E : Hid (nident s = false) := nident_big s (.inl (by omega))
      generalize strOfNums s = S at hsz hne
      go_enter Tryz.func26, Tryz.ntmps26
      go_wp2
      go_ret
      exact ⟨by rw [E.out]; first | rfl | exact ret_bool (by simp [hne]; omega), Below.refl _ _⟩

inductive Tn where
  | mk (kind : Int) (text : List Int) (n m a pos : Int) (doc : List Int) (ad : Option Addr) (cap : Nat) (kids : List Tn) : Tn

def Tn.kind : Tn → Int | .mk k _ _ _ _ _ _ _ _ _ => k
def Tn.text : Tn → List Int | .mk _ t _ _ _ _ _ _ _ _ => t
def Tn.kids : Tn → List Tn | .mk _ _ _ _ _ _ _ _ _ k => k
def Tn.cells : Tn → List Value
  | .mk kind text n m a pos doc ad cap kids => [.int .i64 kind, .string (strOfNums text), .int .i64 n, .int .i64 m, .int .i64 a, .int .i64 pos, .string (strOfNums doc), .slice ad kids.length cap]
def Tn.val (t : Tn) : Value := .agg t.cells.toArray

open Go.ChangeShapes Go.WideShapes Go.ChangeAt

theorem bd_mem {l : List Int} (h : byts l) (i : Nat) : 0 ≤ l.getD i 0 ∧ l.getD i 0 ≤ 255 := by
  rcases Nat.lt_or_ge i l.length with hi | hi
  · rw [List.getD_eq_getElem?_getD, List.getElem?_eq_getElem hi]
    exact h _ (List.getElem_mem hi)
  · rw [List.getD_eq_getElem?_getD, List.getElem?_eq_none hi]; decide

theorem pby_pre (s : List Int) (hs : byts s) (n : Nat) (h0 : 0 < n) (hn : n ≤ 255) : Lib.hasPrefix (strOfNums s).data.toList [UInt8.ofNat n] = decide (s.getD 0 0 = (n : Int)) := by
  rw [strOfNums_data]
  unfold Lib.hasPrefix
  cases s with
  | nil =>
    symm
    apply decide_eq_false
    simp
    omega
  | cons c r =>
    have hc := hs c (by simp)
    rw [Bool.eq_iff_iff, decide_eq_true_eq]
    simp only [List.map_cons, List.isPrefixOf, Bool.and_true, beq_iff_eq, List.getD_cons_zero]
    constructor
    · intro e
      exact u8_inj hc (by omega) (by rw [← e]; simp)
    · rintro rfl; simp

theorem pby_of (l : List Int) : (⟨(l.map fun n => UInt8.ofNat n.toNat).toArray⟩ : ByteArray) = strOfNums l := by
  unfold strOfNums
  rfl

theorem pby_trim (s : List Int) (hs : byts s) (n : Nat) (h0 : 0 < n) (hn : n ≤ 255) : (⟨(Lib.trimPrefix (strOfNums s).data.toList [UInt8.ofNat n]).toArray⟩ : ByteArray) = strOfNums (if s.getD 0 0 = (n : Int) then s.drop 1 else s) := by
  unfold Lib.trimPrefix
  rw [pby_pre s hs n h0 hn, strOfNums_data]
  by_cases h : s.getD 0 0 = (n : Int)
  · rw [if_pos (decide_eq_true h), if_pos h, ← pby_of, List.map_drop]; rfl
  · rw [if_neg (by simpa using h), if_neg h, ← pby_of]

theorem pcutp_any (s : List Int) (n : Nat) (h0 : 0 < n) (hn : n ≤ 255) (w : World) (hs : Hid (byts s)) :
    Calls Tryz.prog 170 #[.string (strOfNums s), .string { data := #[UInt8.ofNat n] }] w fun e w' => e = .returned (.tuple #[.string (strOfNums (if s.getD 0 0 = (n : Int) then s.drop 1 else s)), .bool (decide (s.getD 0 0 = (n : Int)))]) ∧ w' = w := by
  have q := Sh.strings_CutPrefix (strOfNums s) { data := #[UInt8.ofNat n] } w
  rw [show ({ data := #[UInt8.ofNat n] } : ByteArray).data.toList = [UInt8.ofNat n] from rfl, pby_pre s hs.out n h0 hn, pby_trim s hs.out n h0 hn] at q
  exact q

set_option maxRecDepth 10000 in
set_option maxHeartbeats 2000000 in
theorem pint_core (S D X : ByteArray) (minus is same : Bool) (n : Int) (w : World) (n0 : 0 ≤ n) (n1 : n ≤ 18446744073709551615) (e1 : (X.toList == D.toList) = same)
    (q1 : ∀ W, Calls Tryz.prog 170 #[.string S, .string { data := #[45] }] W fun e w' => e = .returned (.tuple #[.string D, .bool minus]) ∧ w' = W)
    (q2 : ∀ W, Calls Tryz.prog 175 #[.string D] W fun e w' => e = .returned (.tuple #[.int .u64 n, .bool is]) ∧ Below W.heap.size W w')
    (q3 : ∀ W, Below w.heap.size w W → Calls Tryz.prog 176 #[.int .u64 n] W fun e w' => e = .returned (.string X) ∧ Below W.heap.size W w')
    (A : Int) (B C : Bool) (hR : Hid ((A, B, C) = if is = false ∨ same = false ∨ (minus = true ∧ (n = 0 ∨ 9223372036854775808 < n)) then (0, false, false) else (n, minus, true))) :
    Calls Tryz.prog 142 #[.string S] w fun e w' => e = .returned (.tuple #[.int .u64 A, .bool B, .bool C]) ∧ Below w.heap.size w w' := by
  have Q1 : Hid _ := q1
  have Q2 : Hid _ := q2
  have Q3 : Hid _ := q3
  clear q1 q2 q3
  have hBB : Hid (∀ w1 w2, Below w.heap.size w w1 → Below w1.heap.size w1 w2 → Below w.heap.size w w2) := fun w1 w2 a b => a.trans (b.mono a.size)
  cases is with
  | false =>
    have E := hR.out
    rw [if_pos (.inl rfl)] at E
    cases E
    clear hR Q3
    go_enter Tryz.func142, Tryz.ntmps142
    go_wp2_with fail
    refine Calls.mono (Q1.out _) ?_
    rintro e w1 ⟨rfl, rfl⟩
    go_wp2_with fail
    refine Calls.mono (Q2.out _) ?_
    rintro e w2 ⟨rfl, hb⟩
    go_wp2
    go_ret3
    exact ⟨rfl, hb⟩
  | true =>
    cases same with
    | false =>
      have E := hR.out
      rw [if_pos (.inr (.inl rfl))] at E
      cases E
      clear hR
      go_enter Tryz.func142, Tryz.ntmps142
      go_wp2_with fail
      refine Calls.mono (Q1.out _) ?_
      rintro e w1 ⟨rfl, rfl⟩
      go_wp2_with fail
      refine Calls.mono (Q2.out _) ?_
      rintro e w2 ⟨rfl, hb⟩
      have HB : Hid (Below w1.heap.size w1 w2) := hb
      clear hb
      go_wp2_with fail
      refine Calls.mono (Q3.out _ HB.out) ?_
      rintro e w3 ⟨rfl, hb⟩
      have HB3 : Hid (Below w1.heap.size w1 w3) := hBB.out _ _ HB.out hb
      clear hb
      go_wp2
      go_ret3
      exact ⟨rfl, HB3.out⟩
    | true =>
      cases minus with
      | false =>
        have E := hR.out
        rw [if_neg (by simp)] at E
        cases E
        clear hR
        go_enter Tryz.func142, Tryz.ntmps142
        go_wp2_with fail
        refine Calls.mono (Q1.out _) ?_
        rintro e w1 ⟨rfl, rfl⟩
        go_wp2_with fail
        refine Calls.mono (Q2.out _) ?_
        rintro e w2 ⟨rfl, hb⟩
        have HB : Hid (Below w1.heap.size w1 w2) := hb
        clear hb
        go_wp2_with fail
        refine Calls.mono (Q3.out _ HB.out) ?_
        rintro e w3 ⟨rfl, hb⟩
        have HB3 : Hid (Below w1.heap.size w1 w3) := hBB.out _ _ HB.out hb
        clear hb
        go_wp2
        go_ret3
        exact ⟨rfl, HB3.out⟩
      | true =>
        by_cases h0 : n = 0
        · subst h0
          have E := hR.out
          rw [if_pos (.inr (.inr ⟨rfl, .inl rfl⟩))] at E
          cases E
          clear hR
          go_enter Tryz.func142, Tryz.ntmps142
          go_wp2_with fail
          refine Calls.mono (Q1.out _) ?_
          rintro e w1 ⟨rfl, rfl⟩
          go_wp2_with fail
          refine Calls.mono (Q2.out _) ?_
          rintro e w2 ⟨rfl, hb⟩
          have HB : Hid (Below w1.heap.size w1 w2) := hb
          clear hb
          go_wp2_with fail
          refine Calls.mono (Q3.out _ HB.out) ?_
          rintro e w3 ⟨rfl, hb⟩
          have HB3 : Hid (Below w1.heap.size w1 w3) := hBB.out _ _ HB.out hb
          clear hb
          go_wp2
          go_ret3
          exact ⟨rfl, HB3.out⟩
        · have z0 : (n == 0) = false := by simpa using h0
          by_cases hbig : 9223372036854775808 < n
          · have E := hR.out
            rw [if_pos (.inr (.inr ⟨rfl, .inr hbig⟩))] at E
            cases E
            clear hR
            go_enter Tryz.func142, Tryz.ntmps142
            go_wp2_with fail
            refine Calls.mono (Q1.out _) ?_
            rintro e w1 ⟨rfl, rfl⟩
            go_wp2_with fail
            refine Calls.mono (Q2.out _) ?_
            rintro e w2 ⟨rfl, hb⟩
            have HB : Hid (Below w1.heap.size w1 w2) := hb
            clear hb
            go_wp2_with fail
            refine Calls.mono (Q3.out _ HB.out) ?_
            rintro e w3 ⟨rfl, hb⟩
            have HB3 : Hid (Below w1.heap.size w1 w3) := hBB.out _ _ HB.out hb
            clear hb
            go_wp2
            go_ret3
            exact ⟨rfl, HB3.out⟩
          · have E := hR.out
            rw [if_neg (by simp [h0]; omega)] at E
            cases E
            clear hR
            go_enter Tryz.func142, Tryz.ntmps142
            go_wp2_with fail
            refine Calls.mono (Q1.out _) ?_
            rintro e w1 ⟨rfl, rfl⟩
            go_wp2_with fail
            refine Calls.mono (Q2.out _) ?_
            rintro e w2 ⟨rfl, hb⟩
            have HB : Hid (Below w1.heap.size w1 w2) := hb
            clear hb
            go_wp2_with fail
            refine Calls.mono (Q3.out _ HB.out) ?_
            rintro e w3 ⟨rfl, hb⟩
            have HB3 : Hid (Below w1.heap.size w1 w3) := hBB.out _ _ HB.out hb
            clear hb
            go_wp2
            go_ret3
            exact ⟨rfl, HB3.out⟩

theorem pint_any (s : List Int) (W : World) (hT : Hid (TTab W)) (hz : Hid (∀ i, 0 ≤ s.getD i 0 ∧ s.getD i 0 ≤ 255)) (hlen : (s.length : Int) ≤ 1000000) :
    Calls Tryz.prog 142 #[.string (strOfNums s)] W fun e w' => e = .returned (.tuple #[.int .u64 (tint s).1, .bool (tint s).2.1, .bool (tint s).2.2]) ∧ Below W.heap.size W w' := by
  have hs : byts s := mem_bd hz.out
  have hd : byts (if s.getD 0 0 = 45 then s.drop 1 else s) := by
    split
    · exact fun c hc => hs c (List.mem_of_mem_drop hc)
    · exact hs
  have hdl : ((if s.getD 0 0 = 45 then s.drop 1 else s).length : Int) ≤ 1000000 := by
    split
    · rw [List.length_drop]; omega
    · exact hlen
  have hE : tint s = tintd (decide (s.getD 0 0 = 45)) (if s.getD 0 0 = 45 then s.drop 1 else s) := by
    unfold tint
    by_cases h : s.getD 0 0 = 45
    · rw [if_pos h, if_pos h, decide_eq_true h]
    · rw [if_neg h, if_neg h, decide_eq_false h]
  have q1 := fun W => pcutp_any s 45 (by omega) (by omega) W hs
  change ∀ W, Calls Tryz.prog 170 #[.string (strOfNums s), .string { data := #[45] }] W fun e w' => e = .returned (.tuple #[.string (strOfNums (if s.getD 0 0 = 45 then s.drop 1 else s)), .bool (decide (s.getD 0 0 = 45))]) ∧ w' = W at q1
  generalize (if s.getD 0 0 = 45 then s.drop 1 else s) = d at hd hdl hE q1
  generalize decide (s.getD 0 0 = 45) = minus at hE q1
  have hb : 0 ≤ (qnum d).1 ∧ (qnum d).1 ≤ 18446744073709551615 := qnum_bd d
  rw [hE]
  refine pint_core (strOfNums s) (strOfNums d) (strOfNums (qdg 20 (qnum d).1)) minus (qnum d).2 (qdg 20 (qnum d).1 == d) (qnum d).1 W hb.1 hb.2 (str_eq (fun c hc => by have := (qdg_bd 20 _ hb.1).1 c hc; omega) hd) q1 (fun V => pnum_any d V (fun i => bd_mem hd i) (by omega)) (fun V hV => pdig_any _ V (hT.out.1.below hV (Nat.le_refl _)) hb.1 hb.2) _ _ _ ?_
  show _ = _
  unfold tintd
  by_cases h : (qnum d).2 = false ∨ qdg 20 (qnum d).1 ≠ d ∨ (minus = true ∧ ((qnum d).1 = 0 ∨ 9223372036854775808 < (qnum d).1))
  · rw [if_pos h, if_pos (h.imp id (Or.imp (fun e => by simpa using e) id))]
  · rw [if_neg h, if_neg (fun g => h (g.imp id (Or.imp (fun e => by simpa using e) id)))]

end Go.Proofs.YtcnjjhdmnagkgaaGreatDoor

namespace Go.Proofs.YtcnjjhdmnagkgaaGreatDoor
set_option linter.unusedVariables false
set_option linter.unusedSimpArgs false

def lbits (t : Int) : Int × Bool :=
  if t = 5 then (32, true)
  else if t = 17 then (32, true)
  else if t = 15 then (32, true)
  else if t = 3 then (64, true)
  else if t = 18 then (64, true)
  else if t = 16 then (64, true)
  else if t = 13 then (32, false)
  else if t = 7 then (32, false)
  else if t = 4 then (64, false)
  else if t = 6 then (64, false)
  else (0, false)

def lmost (b : Int × Bool) : Int := if b.2 = true then (if b.1 = 32 then 2147483647 else 9223372036854775807) else (if b.1 = 32 then 4294967295 else 18446744073709551615)

def lwithin (t : Int) (s : List Int) : Bool :=
  if (lbits t).1 = 0 ∨ (tint s).2.2 = false ∨ ((tint s).2.1 = true ∧ (lbits t).2 = false) then false
  else if (tint s).2.1 = true then decide ((tint s).1 ≤ lmost (lbits t) + 1) else decide ((tint s).1 ≤ lmost (lbits t))

def wTrue : List Int := [116, 114, 117, 101]
def wFalse : List Int := [102, 97, 108, 115, 101]
def wDefault : List Int := [100, 101, 102, 97, 117, 108, 116]
def wJson : List Int := [106, 115, 111, 110, 95, 110, 97, 109, 101]
def wProto3 : List Int := [112, 114, 111, 116, 111, 51]

def ldefault (t : Int) (w : Tn) : Option (List Int) :=
  if 0 < (lbits t).1 ∧ w.kind = 20 then (if lwithin t w.text = true then some w.text else none)
  else if t = 8 ∧ w.kind = 21 ∧ (w.text = wTrue ∨ w.text = wFalse) then some w.text
  else if (t = 9 ∨ t = 12) ∧ w.kind = 22 then some w.text
  else if t = 0 ∧ w.kind = 21 then some w.text
  else none

end Go.Proofs.YtcnjjhdmnagkgaaGreatDoor

namespace Go.Proofs.YtcnjjhdmnagkgaaGreatDoor
open Go.RowKit
set_option linter.unusedVariables false
set_option linter.unusedSimpArgs false

set_option maxRecDepth 10000 in
set_option maxHeartbeats 2000000 in
theorem rbits_any (t : Int) (w : World) :
    Calls Tryz.prog 28 #[.int .i64 t] w fun e w' => e = .returned (.tuple #[.int .i64 (lbits t).1, .bool (lbits t).2]) ∧ w = w' := by
  by_cases h5 : t = 5
  · subst h5
    go_enter Tryz.func28, Tryz.ntmps28
    go_wp2
    go_ret2
    exact ⟨rfl, rfl⟩
  by_cases h17 : t = 17
  · subst h17
    go_enter Tryz.func28, Tryz.ntmps28
    go_wp2
    go_ret2
    exact ⟨rfl, rfl⟩
  by_cases h15 : t = 15
  · subst h15
    go_enter Tryz.func28, Tryz.ntmps28
    go_wp2
    go_ret2
    exact ⟨rfl, rfl⟩
  by_cases h3 : t = 3
  · subst h3
    go_enter Tryz.func28, Tryz.ntmps28
    go_wp2
    go_ret2
    exact ⟨rfl, rfl⟩
  by_cases h18 : t = 18
  · subst h18
    go_enter Tryz.func28, Tryz.ntmps28
    go_wp2
    go_ret2
    exact ⟨rfl, rfl⟩
  by_cases h16 : t = 16
  · subst h16
    go_enter Tryz.func28, Tryz.ntmps28
    go_wp2
    go_ret2
    exact ⟨rfl, rfl⟩
  by_cases h13 : t = 13
  · subst h13
    go_enter Tryz.func28, Tryz.ntmps28
    go_wp2
    go_ret2
    exact ⟨rfl, rfl⟩
  by_cases h7 : t = 7
  · subst h7
    go_enter Tryz.func28, Tryz.ntmps28
    go_wp2
    go_ret2
    exact ⟨rfl, rfl⟩
  by_cases h4 : t = 4
  · subst h4
    go_enter Tryz.func28, Tryz.ntmps28
    go_wp2
    go_ret2
    exact ⟨rfl, rfl⟩
  by_cases h6 : t = 6
  · subst h6
    go_enter Tryz.func28, Tryz.ntmps28
    go_wp2
    go_ret2
    exact ⟨rfl, rfl⟩
  have e : lbits t = (0, false) := by unfold lbits; simp [h5, h17, h15, h3, h18, h16, h13, h7, h4, h6]
  rw [e]
  have g5 : (t == 5) = false := by simpa using h5
  have g17 : (t == 17) = false := by simpa using h17
  have g15 : (t == 15) = false := by simpa using h15
  have g3 : (t == 3) = false := by simpa using h3
  have g18 : (t == 18) = false := by simpa using h18
  have g16 : (t == 16) = false := by simpa using h16
  have g13 : (t == 13) = false := by simpa using h13
  have g7 : (t == 7) = false := by simpa using h7
  have g4 : (t == 4) = false := by simpa using h4
  have g6 : (t == 6) = false := by simpa using h6
  clear e h5 h17 h15 h3 h18 h16 h13 h7 h4 h6
  go_enter Tryz.func28, Tryz.ntmps28
  go_wp2
  go_ret2
  exact ⟨rfl, rfl⟩

theorem lbits_cases (t : Int) : lbits t = (32, true) ∨ lbits t = (64, true) ∨ lbits t = (32, false) ∨ lbits t = (64, false) ∨ lbits t = (0, false) := by
  unfold lbits
  repeat (split; (first | exact .inl rfl | exact .inr (.inl rfl) | exact .inr (.inr (.inl rfl)) | exact .inr (.inr (.inr (.inl rfl))) | exact .inr (.inr (.inr (.inr rfl)))))
  exact .inr (.inr (.inr (.inr rfl)))

def Tb (x : Int × Bool × Bool) : Prop := 0 ≤ x.1 ∧ x.1 ≤ 18446744073709551615

def lnum1 (b : Int × Bool) (r : Int × Bool × Bool) : Int := if b.1 = 0 ∨ r.2.2 = false ∨ (r.2.1 = true ∧ b.2 = false) then 0 else if r.2.1 = true then IntKind.u64.wrap (-r.1) else r.1

def lin1 (b : Int × Bool) (r : Int × Bool × Bool) : Bool :=
  if b.1 = 0 ∨ r.2.2 = false ∨ (r.2.1 = true ∧ b.2 = false) then false
  else if r.2.1 = true then decide (r.1 ≤ lmost b + 1) else decide (r.1 ≤ lmost b)

theorem lwithin_eq (t : Int) (s : List Int) : lwithin t s = lin1 (lbits t) (tint s) := rfl

set_option maxRecDepth 10000 in
set_option maxHeartbeats 4000000 in
theorem rwithin_any (t : Int) (s : List Int) (w : World) (hz : Hid (∀ i, 0 ≤ s.getD i 0 ∧ s.getD i 0 ≤ 255)) (hlen : (s.length : Int) ≤ 1000000) (hb : Hid (Tb (tint s))) :
    Calls Tryz.prog 29 #[.int .i64 t, .string (strOfNums s)] w fun e w' => e = .returned (.tuple #[.int .u64 (lnum1 (lbits t) (tint s)), .bool (lwithin t s)]) ∧ Below w.heap.size w w' := by
  have QB : Hid _ := fun V => rbits_any t V
  have QI : Hid _ := fun V => rint_any s V hz hlen
  have hc := lbits_cases t
  obtain ⟨b0, b1⟩ := hb.out
  rw [lwithin_eq]
  generalize tint s = r at QI b0 b1
  generalize lbits t = b at QB hc
  obtain ⟨r1, r2, r3⟩ := r
  simp only at QI b0 b1
  clear hz hlen hb
  obtain ⟨L1, HL1⟩ : ∃ L, Hid (L = lnum1 b (r1, r2, r3)) := ⟨_, rfl⟩
  obtain ⟨L2, HL2⟩ : ∃ L, Hid (L = lin1 b (r1, r2, r3)) := ⟨_, rfl⟩
  rw [← HL1.out, ← HL2.out]
  cases r3 with
  | false =>
    rcases hc with rfl | rfl | rfl | rfl | rfl
    all_goals
      simp only at QB
      go_enter Tryz.func29, Tryz.ntmps29
      go_wp2_with fail
      refine Calls.mono (QB.out _) ?_
      rintro e w1 ⟨rfl, rfl⟩
      go_wp2_with fail
      refine Calls.mono (QI.out _) ?_
      rintro e w2 ⟨rfl, hb2⟩
      have HB2 : Hid _ := hb2
      clear hb2
      go_wp2
      go_ret2
      exact ⟨by rw [HL1.out, HL2.out]; rfl, HB2.out⟩
  | true =>
    cases r2 with
    | false =>
      rcases hc with rfl | rfl | rfl | rfl | rfl
      all_goals
        simp only at QB
        go_enter Tryz.func29, Tryz.ntmps29
        go_wp2_with fail
        refine Calls.mono (QB.out _) ?_
        rintro e w1 ⟨rfl, rfl⟩
        go_wp2_with fail
        refine Calls.mono (QI.out _) ?_
        rintro e w2 ⟨rfl, hb2⟩
        have HB2 : Hid _ := hb2
        clear hb2
        go_wp2
        go_ret2
        refine ⟨?_, HB2.out⟩
        rw [HL1.out, HL2.out]
        first | rfl | (simp [lnum1, lin1, lmost]; done) | (simp [lnum1, lin1, lmost, b1]; done) | (simp [lnum1, lin1, lmost]; omega)
    | true =>
      rcases hc with rfl | rfl | rfl | rfl | rfl
      all_goals
        simp only at QB
        go_enter Tryz.func29, Tryz.ntmps29
        go_wp2_with fail
        refine Calls.mono (QB.out _) ?_
        rintro e w1 ⟨rfl, rfl⟩
        go_wp2_with fail
        refine Calls.mono (QI.out _) ?_
        rintro e w2 ⟨rfl, hb2⟩
        have HB2 : Hid _ := hb2
        clear hb2
        go_wp2
        go_ret2
        refine ⟨?_, HB2.out⟩
        rw [HL1.out, HL2.out]
        first | rfl | (simp [lnum1, lin1, lmost]; done) | (simp [lnum1, lin1, lmost, b1]; done) | (simp [lnum1, lin1, lmost]; omega)

def dret (o : Option (List Int)) : Value := .tuple #[.string (strOfNums (o.getD [])), .bool o.isSome]

theorem dret_none : dret none = .tuple #[.string ⟨#[]⟩, .bool false] := rfl

theorem dret_some (s : List Int) : dret (some s) = .tuple #[.string (strOfNums s), .bool true] := rfl

end Go.Proofs.YtcnjjhdmnagkgaaGreatDoor
