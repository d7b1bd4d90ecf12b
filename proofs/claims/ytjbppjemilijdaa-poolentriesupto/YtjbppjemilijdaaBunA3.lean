/- Put together by a program out of these texts of mine: YWt, WTk. -/
import Derived.Test.YtjbppjemilijdaaBunA2

/- The contract of the document's own answer for taking a field (the reference's Take), over the turned text. -/
namespace Go.Proofs.Ytjbppjemilijdaa
open Go.RowKit

def fldEnd (r : Tkn) (a : Option Addr) (len cap : Nat) : Ending := .returned (.tuple #[.agg #[.int .i64 r.num, .int .i64 r.kind, .int .u64 r.n, .slice a len cap], .int .i64 r.used, .int .i64 r.err])

set_option maxHeartbeats 400000 in
theorem rwt_none (a : Option Addr) (len cap : Nat) (zs : List Int) (w : World) (hbs : Hid (Bs w a len cap zs)) (ht : Hid (tk 10 zs 0 0 = (0, 0, 10))) :
    Calls Try.prog 21 #[.slice a len cap] w fun e w' => e = fldEnd (.no 10) none 0 0 ∧ Below w.heap.size w w' := by
  have q := fun o => rtake_bs (hbs.out.below ((Below.refl _ _).alloc (Nat.le_refl _) o) (Nat.le_refl _))
  rw [ht.out] at q
  have Q : Hid _ := q
  clear q
  go_enter Try.func21, Try.ntmps21
  go_wp2_with fail
  refine Calls.mono (Q.out _) ?_
  rintro e w' ⟨rfl, rfl⟩
  rw [show tkEnd (0, 0, 10) = .returned (.tuple #[.int .u64 0, .int .i64 0, .int .i64 10]) from rfl]
  go_wp2
  exact bodyPost_ret (v := .tuple #[.agg #[.int .i64 0, .int .i64 0, .int .u64 0, .slice none 0 0], .int .i64 0, .int .i64 10]) (by simp [results, Try.results21, go_sem]) rfl ⟨rfl, (Below.refl _ _).alloc (Nat.le_refl _) _⟩

set_option maxHeartbeats 400000 in
theorem rwt_high (a : Option Addr) (len cap : Nat) (zs : List Int) (w : World) (hbs : Hid (Bs w a len cap zs)) (tag : Int) (m : Nat) (ht : Hid (tk 10 zs 0 0 = (tag, (m : Int), 0))) (h : 4294967296 ≤ tag) :
    Calls Try.prog 21 #[.slice a len cap] w fun e w' => e = fldEnd (.no 20) none 0 0 ∧ Below w.heap.size w w' := by
  have q := fun o => rtake_bs (hbs.out.below ((Below.refl _ _).alloc (Nat.le_refl _) o) (Nat.le_refl _))
  rw [ht.out] at q
  have Q : Hid _ := q
  clear q
  go_enter Try.func21, Try.ntmps21
  go_wp2_with fail
  refine Calls.mono (Q.out _) ?_
  rintro e w' ⟨rfl, rfl⟩
  rw [show tkEnd (tag, (m : Int), 0) = .returned (.tuple #[.int .u64 tag, .int .i64 (m : Int), .int .i64 0]) from rfl]
  go_wp2
  all_goals exact bodyPost_ret (v := .tuple #[.agg #[.int .i64 0, .int .i64 0, .int .u64 0, .slice none 0 0], .int .i64 0, .int .i64 20]) (by simp [results, Try.results21, go_sem]) rfl ⟨rfl, (Below.refl _ _).alloc (Nat.le_refl _) _⟩

set_option maxHeartbeats 400000 in
theorem rwt_low (a : Option Addr) (len cap : Nat) (zs : List Int) (w : World) (hbs : Hid (Bs w a len cap zs)) (tag : Int) (m : Nat) (ht : Hid (tk 10 zs 0 0 = (tag, (m : Int), 0))) (h : tag < 8) :
    Calls Try.prog 21 #[.slice a len cap] w fun e w' => e = fldEnd (.no 20) none 0 0 ∧ Below w.heap.size w w' := by
  have q := fun o => rtake_bs (hbs.out.below ((Below.refl _ _).alloc (Nat.le_refl _) o) (Nat.le_refl _))
  rw [ht.out] at q
  have Q : Hid _ := q
  clear q
  go_enter Try.func21, Try.ntmps21
  go_wp2_with fail
  refine Calls.mono (Q.out _) ?_
  rintro e w' ⟨rfl, rfl⟩
  rw [show tkEnd (tag, (m : Int), 0) = .returned (.tuple #[.int .u64 tag, .int .i64 (m : Int), .int .i64 0]) from rfl]
  go_wp2
  all_goals exact bodyPost_ret (v := .tuple #[.agg #[.int .i64 0, .int .i64 0, .int .u64 0, .slice none 0 0], .int .i64 0, .int .i64 20]) (by simp [results, Try.results21, go_sem]) rfl ⟨rfl, (Below.refl _ _).alloc (Nat.le_refl _) _⟩

set_option maxHeartbeats 400000 in
theorem rwt_kind (a : Option Addr) (len cap : Nat) (zs : List Int) (w : World) (hbs : Hid (Bs w a len cap zs)) (tag : Int) (m : Nat) (ht : Hid (tk 10 zs 0 0 = (tag, (m : Int), 0))) (h1 : tag < 4294967296) (h2 : 8 ≤ tag) (h : kindOk (tag % 8) = false) :
    Calls Try.prog 21 #[.slice a len cap] w fun e w' => e = fldEnd (.no 20) none 0 0 ∧ Below w.heap.size w w' := by
  have q := fun o => rtake_bs (hbs.out.below ((Below.refl _ _).alloc (Nat.le_refl _) o) (Nat.le_refl _))
  rw [ht.out] at q
  have Q : Hid _ := q
  clear q
  go_enter Try.func21, Try.ntmps21
  go_wp2_with fail
  refine Calls.mono (Q.out _) ?_
  rintro e w' ⟨rfl, rfl⟩
  rw [show tkEnd (tag, (m : Int), 0) = .returned (.tuple #[.int .u64 tag, .int .i64 (m : Int), .int .i64 0]) from rfl]
  go_wp2_with fail
  refine (rkind_any _ _).mono ?_
  rintro e w' ⟨rfl, rfl⟩
  rw [h]
  go_wp2
  all_goals exact bodyPost_ret (v := .tuple #[.agg #[.int .i64 0, .int .i64 0, .int .u64 0, .slice none 0 0], .int .i64 0, .int .i64 20]) (by simp [results, Try.results21, go_sem]) rfl ⟨rfl, (Below.refl _ _).alloc (Nat.le_refl _) _⟩

theorem Bs.first {w : World} {a : Option Addr} {len cap : Nat} {zs : List Int} (h : Bs w a len cap zs) (k : Nat) (hk : k ≤ len) : Bs w a k cap (zs.take k) := by
  obtain ⟨h1, h2, h3, h4, h5, h6⟩ := h
  refine ⟨by simp; omega, by omega, getD_bd (fun c hc => mem_bd h3 c (List.mem_of_mem_take hc)), by omega, h5, fun hp => ?_⟩
  obtain ⟨b, off, rfl, hlt, hc⟩ := h6 (by omega)
  refine ⟨b, off, rfl, hlt, fun i hi => ?_⟩
  rw [hc i (by omega)]
  simp [List.getD, hi]

theorem Bs.rest {w : World} {a : Option Addr} {len cap : Nat} {zs : List Int} (h : Bs w a len cap zs) (l : Nat) (hl : l ≤ len) (hc : l < cap) : Bs w (Option.map (fun x => x.add l) a) (len - l) (cap - l) (zs.drop l) := by
  have e := h.cut l len hl (Nat.le_refl _)
  rw [if_neg (by omega), List.take_of_length_le (by rw [h.1]; omega)] at e
  exact e

set_option maxHeartbeats 2000000 in
theorem rwt_1 (a : Option Addr) (len cap : Nat) (zs : List Int) (w : World) (hbs : Hid (Bs w a len cap zs)) (tag : Int) (m : Nat) (ht : Hid (tk 10 zs 0 0 = (tag, (m : Int), 0))) (h1 : tag < 4294967296) (h2 : 8 ≤ tag) (h : tag % 8 = 1) (hm : m + 8 ≤ len) :
    Calls Try.prog 21 #[.slice a len cap] w fun e w' => e = fldEnd ⟨tag / 8, 1, uf ((zs.drop m).take 8), [], (m : Int) + 8, 0⟩ none 0 0 ∧ Below w.heap.size w w' := by
  have hlc := hbs.out.2.2.2.1
  have hll := hbs.out.2.1
  have g1 : ((8 : Nat) : Int) ≤ ((len - m : Nat) : Int) := by omega
  have g2 : ((8 : Nat) : Int) ≤ ((cap - m : Nat) : Int) := by omega
  have U := fun o1 o2 => runfixed_bs (((hbs.out.rest m (by omega) (by omega)).first 8 (by omega)).below (((Below.refl _ _).alloc (Nat.le_refl _) o1).alloc (by simp) o2) (Nat.le_refl _))
  have HU : Hid _ := U
  clear U
  have q := fun o => rtake_bs (hbs.out.below ((Below.refl _ _).alloc (Nat.le_refl _) o) (Nat.le_refl _))
  rw [ht.out] at q
  have Q : Hid _ := q
  clear q
  go_enter Try.func21, Try.ntmps21
  go_wp2_with fail
  refine Calls.mono (Q.out _) ?_
  rintro e w' ⟨rfl, rfl⟩
  rw [show tkEnd (tag, (m : Int), 0) = .returned (.tuple #[.int .u64 tag, .int .i64 (m : Int), .int .i64 0]) from rfl]
  go_wp2_with fail
  refine (rkind_any _ _).mono ?_
  rintro e w' ⟨rfl, rfl⟩
  rw [show kindOk 1 = true from rfl]
  go_wp2_with fail
  refine Calls.mono (HU.out _ _) ?_
  rintro e w' ⟨rfl, rfl⟩
  rw [show List.take 8 (List.take 8 (List.drop m zs)) = List.take 8 (List.drop m zs) from by rw [List.take_take]; rfl]
  go_wp2
  refine bodyPost_ret (v := .tuple #[.agg #[.int .i64 (tag / 8), .int .i64 1, .int .u64 (uf ((zs.drop m).take 8)), .slice none 0 0], .int .i64 ((m : Int) + 8), .int .i64 0]) (by simp [results, Try.results21, go_sem]) rfl ⟨rfl, ?_⟩
  exact ((Below.refl _ _).alloc (Nat.le_refl _) _).alloc (by simp) _

set_option maxHeartbeats 2000000 in
theorem rwt_1_short (a : Option Addr) (len cap : Nat) (zs : List Int) (w : World) (hbs : Hid (Bs w a len cap zs)) (tag : Int) (m : Nat) (ht : Hid (tk 10 zs 0 0 = (tag, (m : Int), 0))) (h1 : tag < 4294967296) (h2 : 8 ≤ tag) (h : tag % 8 = 1) (hm : m ≤ len) (hs : len < m + 8) :
    Calls Try.prog 21 #[.slice a len cap] w fun e w' => e = fldEnd (.no 21) none 0 0 ∧ Below w.heap.size w w' := by
  have hlc := hbs.out.2.2.2.1
  have hll := hbs.out.2.1
  have g1 : ((len - m : Nat) : Int) < ((8 : Nat) : Int) := by omega
  have q := fun o => rtake_bs (hbs.out.below ((Below.refl _ _).alloc (Nat.le_refl _) o) (Nat.le_refl _))
  rw [ht.out] at q
  have Q : Hid _ := q
  clear q
  go_enter Try.func21, Try.ntmps21
  go_wp2_with fail
  refine Calls.mono (Q.out _) ?_
  rintro e w' ⟨rfl, rfl⟩
  rw [show tkEnd (tag, (m : Int), 0) = .returned (.tuple #[.int .u64 tag, .int .i64 (m : Int), .int .i64 0]) from rfl]
  go_wp2_with fail
  refine (rkind_any _ _).mono ?_
  rintro e w' ⟨rfl, rfl⟩
  rw [show kindOk 1 = true from rfl]
  go_wp2
  all_goals exact bodyPost_ret (v := .tuple #[.agg #[.int .i64 0, .int .i64 0, .int .u64 0, .slice none 0 0], .int .i64 0, .int .i64 21]) (by simp [results, Try.results21, go_sem]) rfl ⟨rfl, ((Below.refl _ _).alloc (Nat.le_refl _) _).alloc (by simp) _⟩

set_option maxHeartbeats 2000000 in
theorem rwt_5 (a : Option Addr) (len cap : Nat) (zs : List Int) (w : World) (hbs : Hid (Bs w a len cap zs)) (tag : Int) (m : Nat) (ht : Hid (tk 10 zs 0 0 = (tag, (m : Int), 0))) (h1 : tag < 4294967296) (h2 : 8 ≤ tag) (h : tag % 8 = 5) (hm : m + 4 ≤ len) :
    Calls Try.prog 21 #[.slice a len cap] w fun e w' => e = fldEnd ⟨tag / 8, 5, uf ((zs.drop m).take 4), [], (m : Int) + 4, 0⟩ none 0 0 ∧ Below w.heap.size w w' := by
  have hlc := hbs.out.2.2.2.1
  have hll := hbs.out.2.1
  have g1 : ((4 : Nat) : Int) ≤ ((len - m : Nat) : Int) := by omega
  have g2 : ((4 : Nat) : Int) ≤ ((cap - m : Nat) : Int) := by omega
  have U := fun o1 o2 => runfixed_bs (((hbs.out.rest m (by omega) (by omega)).first 4 (by omega)).below (((Below.refl _ _).alloc (Nat.le_refl _) o1).alloc (by simp) o2) (Nat.le_refl _))
  have HU : Hid _ := U
  clear U
  have q := fun o => rtake_bs (hbs.out.below ((Below.refl _ _).alloc (Nat.le_refl _) o) (Nat.le_refl _))
  rw [ht.out] at q
  have Q : Hid _ := q
  clear q
  go_enter Try.func21, Try.ntmps21
  go_wp2_with fail
  refine Calls.mono (Q.out _) ?_
  rintro e w' ⟨rfl, rfl⟩
  rw [show tkEnd (tag, (m : Int), 0) = .returned (.tuple #[.int .u64 tag, .int .i64 (m : Int), .int .i64 0]) from rfl]
  go_wp2_with fail
  refine (rkind_any _ _).mono ?_
  rintro e w' ⟨rfl, rfl⟩
  rw [show kindOk 5 = true from rfl]
  go_wp2_with fail
  refine Calls.mono (HU.out _ _) ?_
  rintro e w' ⟨rfl, rfl⟩
  rw [show List.take 8 (List.take 4 (List.drop m zs)) = List.take 4 (List.drop m zs) from by rw [List.take_take]; rfl]
  go_wp2
  refine bodyPost_ret (v := .tuple #[.agg #[.int .i64 (tag / 8), .int .i64 5, .int .u64 (uf ((zs.drop m).take 4)), .slice none 0 0], .int .i64 ((m : Int) + 4), .int .i64 0]) (by simp [results, Try.results21, go_sem]) rfl ⟨rfl, ?_⟩
  exact ((Below.refl _ _).alloc (Nat.le_refl _) _).alloc (by simp) _

set_option maxHeartbeats 2000000 in
theorem rwt_5_short (a : Option Addr) (len cap : Nat) (zs : List Int) (w : World) (hbs : Hid (Bs w a len cap zs)) (tag : Int) (m : Nat) (ht : Hid (tk 10 zs 0 0 = (tag, (m : Int), 0))) (h1 : tag < 4294967296) (h2 : 8 ≤ tag) (h : tag % 8 = 5) (hm : m ≤ len) (hs : len < m + 4) :
    Calls Try.prog 21 #[.slice a len cap] w fun e w' => e = fldEnd (.no 21) none 0 0 ∧ Below w.heap.size w w' := by
  have hlc := hbs.out.2.2.2.1
  have hll := hbs.out.2.1
  have g1 : ((len - m : Nat) : Int) < ((4 : Nat) : Int) := by omega
  have q := fun o => rtake_bs (hbs.out.below ((Below.refl _ _).alloc (Nat.le_refl _) o) (Nat.le_refl _))
  rw [ht.out] at q
  have Q : Hid _ := q
  clear q
  go_enter Try.func21, Try.ntmps21
  go_wp2_with fail
  refine Calls.mono (Q.out _) ?_
  rintro e w' ⟨rfl, rfl⟩
  rw [show tkEnd (tag, (m : Int), 0) = .returned (.tuple #[.int .u64 tag, .int .i64 (m : Int), .int .i64 0]) from rfl]
  go_wp2_with fail
  refine (rkind_any _ _).mono ?_
  rintro e w' ⟨rfl, rfl⟩
  rw [show kindOk 5 = true from rfl]
  go_wp2
  all_goals exact bodyPost_ret (v := .tuple #[.agg #[.int .i64 0, .int .i64 0, .int .u64 0, .slice none 0 0], .int .i64 0, .int .i64 21]) (by simp [results, Try.results21, go_sem]) rfl ⟨rfl, ((Below.refl _ _).alloc (Nat.le_refl _) _).alloc (by simp) _⟩

set_option maxHeartbeats 2000000 in
theorem rwt_0_none (a : Option Addr) (len cap : Nat) (zs : List Int) (w : World) (hbs : Hid (Bs w a len cap zs)) (tag : Int) (m : Nat) (ht : Hid (tk 10 zs 0 0 = (tag, (m : Int), 0))) (h1 : tag < 4294967296) (h2 : 8 ≤ tag) (h : tag % 8 = 0) (hm : m ≤ len) (hc : m < cap) (hu : Hid (tk 10 (zs.drop m) 0 0 = (0, 0, 10))) :
    Calls Try.prog 21 #[.slice a len cap] w fun e w' => e = fldEnd (.no 10) none 0 0 ∧ Below w.heap.size w w' := by
  have hlc := hbs.out.2.2.2.1
  have hll := hbs.out.2.1
  have U := fun o1 o2 => rtake_bs ((hbs.out.rest m (by omega) (by omega)).below (((Below.refl _ _).alloc (Nat.le_refl _) o1).alloc (by simp) o2) (Nat.le_refl _))
  rw [hu.out] at U
  have HU : Hid _ := U
  clear U
  have q := fun o => rtake_bs (hbs.out.below ((Below.refl _ _).alloc (Nat.le_refl _) o) (Nat.le_refl _))
  rw [ht.out] at q
  have Q : Hid _ := q
  clear q
  go_enter Try.func21, Try.ntmps21
  go_wp2_with fail
  refine Calls.mono (Q.out _) ?_
  rintro e w' ⟨rfl, rfl⟩
  rw [show tkEnd (tag, (m : Int), 0) = .returned (.tuple #[.int .u64 tag, .int .i64 (m : Int), .int .i64 0]) from rfl]
  go_wp2_with fail
  refine (rkind_any _ _).mono ?_
  rintro e w' ⟨rfl, rfl⟩
  rw [show kindOk 0 = true from rfl]
  go_wp2_with fail
  refine Calls.mono (HU.out _ _) ?_
  rintro e w' ⟨rfl, rfl⟩
  rw [show tkEnd (0, 0, 10) = .returned (.tuple #[.int .u64 0, .int .i64 0, .int .i64 10]) from rfl]
  go_wp2
  all_goals exact bodyPost_ret (v := .tuple #[.agg #[.int .i64 0, .int .i64 0, .int .u64 0, .slice none 0 0], .int .i64 0, .int .i64 10]) (by simp [results, Try.results21, go_sem]) rfl ⟨rfl, ((Below.refl _ _).alloc (Nat.le_refl _) _).alloc (by simp) _⟩

set_option maxHeartbeats 2000000 in
theorem rwt_0_end (a : Option Addr) (len cap : Nat) (zs : List Int) (w : World) (hbs : Hid (Bs w a len cap zs)) (tag : Int) (m : Nat) (ht : Hid (tk 10 zs 0 0 = (tag, (m : Int), 0))) (h1 : tag < 4294967296) (h2 : 8 ≤ tag) (h : tag % 8 = 0) (hm : m ≤ len) (hc : m = cap) :
    Calls Try.prog 21 #[.slice a len cap] w fun e w' => e = fldEnd (.no 10) none 0 0 ∧ Below w.heap.size w w' := by
  have hlc := hbs.out.2.2.2.1
  have hll := hbs.out.2.1
  subst hc
  have e : m = len := by omega
  subst e
  have U := fun o1 o2 => rtake_none a 0 ((w.alloc o1).alloc o2)
  rw [show tk 10 [] 0 0 = (0, 0, 10) from rfl] at U
  have HU : Hid _ := U
  clear U
  have q := fun o => rtake_bs (hbs.out.below ((Below.refl _ _).alloc (Nat.le_refl _) o) (Nat.le_refl _))
  rw [ht.out] at q
  have Q : Hid _ := q
  clear q
  go_enter Try.func21, Try.ntmps21
  go_wp2_with fail
  refine Calls.mono (Q.out _) ?_
  rintro e w' ⟨rfl, rfl⟩
  rw [show tkEnd (tag, (m : Int), 0) = .returned (.tuple #[.int .u64 tag, .int .i64 (m : Int), .int .i64 0]) from rfl]
  go_wp2_with fail
  refine (rkind_any _ _).mono ?_
  rintro e w' ⟨rfl, rfl⟩
  rw [show kindOk 0 = true from rfl]
  go_wp2_with fail
  refine Calls.mono (HU.out _ _) ?_
  rintro e w' ⟨rfl, rfl⟩
  rw [show tkEnd (0, 0, 10) = .returned (.tuple #[.int .u64 0, .int .i64 0, .int .i64 10]) from rfl]
  go_wp2
  all_goals exact bodyPost_ret (v := .tuple #[.agg #[.int .i64 0, .int .i64 0, .int .u64 0, .slice none 0 0], .int .i64 0, .int .i64 10]) (by simp [results, Try.results21, go_sem]) rfl ⟨rfl, ((Below.refl _ _).alloc (Nat.le_refl _) _).alloc (by simp) _⟩

set_option maxHeartbeats 2000000 in
theorem rwt_2_none (a : Option Addr) (len cap : Nat) (zs : List Int) (w : World) (hbs : Hid (Bs w a len cap zs)) (tag : Int) (m : Nat) (ht : Hid (tk 10 zs 0 0 = (tag, (m : Int), 0))) (h1 : tag < 4294967296) (h2 : 8 ≤ tag) (h : tag % 8 = 2) (hm : m ≤ len) (hc : m < cap) (hu : Hid (tk 10 (zs.drop m) 0 0 = (0, 0, 10))) :
    Calls Try.prog 21 #[.slice a len cap] w fun e w' => e = fldEnd (.no 10) none 0 0 ∧ Below w.heap.size w w' := by
  have hlc := hbs.out.2.2.2.1
  have hll := hbs.out.2.1
  have U := fun o1 o2 => rtake_bs ((hbs.out.rest m (by omega) (by omega)).below (((Below.refl _ _).alloc (Nat.le_refl _) o1).alloc (by simp) o2) (Nat.le_refl _))
  rw [hu.out] at U
  have HU : Hid _ := U
  clear U
  have q := fun o => rtake_bs (hbs.out.below ((Below.refl _ _).alloc (Nat.le_refl _) o) (Nat.le_refl _))
  rw [ht.out] at q
  have Q : Hid _ := q
  clear q
  go_enter Try.func21, Try.ntmps21
  go_wp2_with fail
  refine Calls.mono (Q.out _) ?_
  rintro e w' ⟨rfl, rfl⟩
  rw [show tkEnd (tag, (m : Int), 0) = .returned (.tuple #[.int .u64 tag, .int .i64 (m : Int), .int .i64 0]) from rfl]
  go_wp2_with fail
  refine (rkind_any _ _).mono ?_
  rintro e w' ⟨rfl, rfl⟩
  rw [show kindOk 2 = true from rfl]
  go_wp2_with fail
  refine Calls.mono (HU.out _ _) ?_
  rintro e w' ⟨rfl, rfl⟩
  rw [show tkEnd (0, 0, 10) = .returned (.tuple #[.int .u64 0, .int .i64 0, .int .i64 10]) from rfl]
  go_wp2
  all_goals exact bodyPost_ret (v := .tuple #[.agg #[.int .i64 0, .int .i64 0, .int .u64 0, .slice none 0 0], .int .i64 0, .int .i64 10]) (by simp [results, Try.results21, go_sem]) rfl ⟨rfl, ((Below.refl _ _).alloc (Nat.le_refl _) _).alloc (by simp) _⟩

set_option maxHeartbeats 2000000 in
theorem rwt_2_end (a : Option Addr) (len cap : Nat) (zs : List Int) (w : World) (hbs : Hid (Bs w a len cap zs)) (tag : Int) (m : Nat) (ht : Hid (tk 10 zs 0 0 = (tag, (m : Int), 0))) (h1 : tag < 4294967296) (h2 : 8 ≤ tag) (h : tag % 8 = 2) (hm : m ≤ len) (hc : m = cap) :
    Calls Try.prog 21 #[.slice a len cap] w fun e w' => e = fldEnd (.no 10) none 0 0 ∧ Below w.heap.size w w' := by
  have hlc := hbs.out.2.2.2.1
  have hll := hbs.out.2.1
  subst hc
  have e : m = len := by omega
  subst e
  have U := fun o1 o2 => rtake_none a 0 ((w.alloc o1).alloc o2)
  rw [show tk 10 [] 0 0 = (0, 0, 10) from rfl] at U
  have HU : Hid _ := U
  clear U
  have q := fun o => rtake_bs (hbs.out.below ((Below.refl _ _).alloc (Nat.le_refl _) o) (Nat.le_refl _))
  rw [ht.out] at q
  have Q : Hid _ := q
  clear q
  go_enter Try.func21, Try.ntmps21
  go_wp2_with fail
  refine Calls.mono (Q.out _) ?_
  rintro e w' ⟨rfl, rfl⟩
  rw [show tkEnd (tag, (m : Int), 0) = .returned (.tuple #[.int .u64 tag, .int .i64 (m : Int), .int .i64 0]) from rfl]
  go_wp2_with fail
  refine (rkind_any _ _).mono ?_
  rintro e w' ⟨rfl, rfl⟩
  rw [show kindOk 2 = true from rfl]
  go_wp2_with fail
  refine Calls.mono (HU.out _ _) ?_
  rintro e w' ⟨rfl, rfl⟩
  rw [show tkEnd (0, 0, 10) = .returned (.tuple #[.int .u64 0, .int .i64 0, .int .i64 10]) from rfl]
  go_wp2
  all_goals exact bodyPost_ret (v := .tuple #[.agg #[.int .i64 0, .int .i64 0, .int .u64 0, .slice none 0 0], .int .i64 0, .int .i64 10]) (by simp [results, Try.results21, go_sem]) rfl ⟨rfl, ((Below.refl _ _).alloc (Nat.le_refl _) _).alloc (by simp) _⟩

set_option maxHeartbeats 2000000 in
theorem rwt_0 (a : Option Addr) (len cap : Nat) (zs : List Int) (w : World) (hbs : Hid (Bs w a len cap zs)) (tag : Int) (m : Nat) (ht : Hid (tk 10 zs 0 0 = (tag, (m : Int), 0))) (h1 : tag < 4294967296) (h2 : 8 ≤ tag) (h : tag % 8 = 0) (hm : m < len) (x : Int) (k : Nat) (hu : Hid (tk 10 (zs.drop m) 0 0 = (x, (k : Int), 0))) (hk : k ≤ len - m) :
    Calls Try.prog 21 #[.slice a len cap] w fun e w' => e = fldEnd ⟨tag / 8, 0, x, [], (m : Int) + (k : Int), 0⟩ none 0 0 ∧ Below w.heap.size w w' := by
  have hlc := hbs.out.2.2.2.1
  have hll := hbs.out.2.1
  have hmk : (m : Int) + (k : Int) ≤ (len : Int) := by omega
  have U := fun o1 o2 => rtake_bs ((hbs.out.rest m (by omega) (by omega)).below (((Below.refl _ _).alloc (Nat.le_refl _) o1).alloc (by simp) o2) (Nat.le_refl _))
  rw [hu.out] at U
  have HU : Hid _ := U
  clear U
  have q := fun o => rtake_bs (hbs.out.below ((Below.refl _ _).alloc (Nat.le_refl _) o) (Nat.le_refl _))
  rw [ht.out] at q
  have Q : Hid _ := q
  clear q
  go_enter Try.func21, Try.ntmps21
  go_wp2_with fail
  refine Calls.mono (Q.out _) ?_
  rintro e w' ⟨rfl, rfl⟩
  rw [show tkEnd (tag, (m : Int), 0) = .returned (.tuple #[.int .u64 tag, .int .i64 (m : Int), .int .i64 0]) from rfl]
  go_wp2_with fail
  refine (rkind_any _ _).mono ?_
  rintro e w' ⟨rfl, rfl⟩
  rw [show kindOk 0 = true from rfl]
  go_wp2_with fail
  refine Calls.mono (HU.out _ _) ?_
  rintro e w' ⟨rfl, rfl⟩
  rw [show tkEnd (x, (k : Int), 0) = .returned (.tuple #[.int .u64 x, .int .i64 (k : Int), .int .i64 0]) from rfl]
  go_wp2
  refine bodyPost_ret (v := .tuple #[.agg #[.int .i64 (tag / 8), .int .i64 0, .int .u64 x, .slice none 0 0], .int .i64 ((m : Int) + (k : Int)), .int .i64 0]) (by simp [results, Try.results21, go_sem]) rfl ⟨rfl, ?_⟩
  exact ((Below.refl _ _).alloc (Nat.le_refl _) _).alloc (by simp) _

set_option maxHeartbeats 2000000 in
theorem rwt_2_short (a : Option Addr) (len cap : Nat) (zs : List Int) (w : World) (hbs : Hid (Bs w a len cap zs)) (tag : Int) (m : Nat) (ht : Hid (tk 10 zs 0 0 = (tag, (m : Int), 0))) (h1 : tag < 4294967296) (h2 : 8 ≤ tag) (h : tag % 8 = 2) (hm : m < len) (x : Int) (k : Nat) (hu : Hid (tk 10 (zs.drop m) 0 0 = (x, (k : Int), 0))) (hk : k ≤ len - m) (hx : ((len - m : Nat) : Int) - (k : Int) < x) :
    Calls Try.prog 21 #[.slice a len cap] w fun e w' => e = fldEnd (.no 21) none 0 0 ∧ Below w.heap.size w w' := by
  have hlc := hbs.out.2.2.2.1
  have hll := hbs.out.2.1
  have U := fun o1 o2 => rtake_bs ((hbs.out.rest m (by omega) (by omega)).below (((Below.refl _ _).alloc (Nat.le_refl _) o1).alloc (by simp) o2) (Nat.le_refl _))
  rw [hu.out] at U
  have HU : Hid _ := U
  clear U
  have q := fun o => rtake_bs (hbs.out.below ((Below.refl _ _).alloc (Nat.le_refl _) o) (Nat.le_refl _))
  rw [ht.out] at q
  have Q : Hid _ := q
  clear q
  go_enter Try.func21, Try.ntmps21
  go_wp2_with fail
  refine Calls.mono (Q.out _) ?_
  rintro e w' ⟨rfl, rfl⟩
  rw [show tkEnd (tag, (m : Int), 0) = .returned (.tuple #[.int .u64 tag, .int .i64 (m : Int), .int .i64 0]) from rfl]
  go_wp2_with fail
  refine (rkind_any _ _).mono ?_
  rintro e w' ⟨rfl, rfl⟩
  rw [show kindOk 2 = true from rfl]
  go_wp2_with fail
  refine Calls.mono (HU.out _ _) ?_
  rintro e w' ⟨rfl, rfl⟩
  rw [show tkEnd (x, (k : Int), 0) = .returned (.tuple #[.int .u64 x, .int .i64 (k : Int), .int .i64 0]) from rfl]
  go_wp2
  all_goals exact bodyPost_ret (v := .tuple #[.agg #[.int .i64 0, .int .i64 0, .int .u64 0, .slice none 0 0], .int .i64 0, .int .i64 21]) (by simp [results, Try.results21, go_sem]) rfl ⟨rfl, ((Below.refl _ _).alloc (Nat.le_refl _) _).alloc (by simp) _⟩

/-- The slice's bytes, where there are any, lie in a block from B on. -/
def Fresh (B : Nat) (a : Option Addr) (len : Nat) : Prop := ∀ x, 0 < len → a = some x → B ≤ x.block

theorem Fresh.of_owns {w : World} {base e sz n : Nat} {a : Option Addr} {len cap : Nat} {xs : List Value} (h : w.ownsRow base e sz (.slice a len cap) n xs) : Fresh base a len := by
  intro x hl hx
  subst hx
  rcases h.2 with ⟨he, _⟩ | ⟨g, c, cur, he, hg, _⟩
  · simp at he
  · simp at he
    obtain ⟨rfl, _⟩ := he
    exact hg

theorem Fresh.mono {B B' : Nat} {a : Option Addr} {len : Nat} (h : Fresh B a len) (hB : B' ≤ B) : Fresh B' a len := fun x hl hx => Nat.le_trans hB (h x hl hx)

/-- Two boxes of four cells, behind an append that turns nothing that was there. -/
theorem boxes {w w3 : World} {x0 x1 x2 x3 y0 y1 y2 y3 : Value} {t : TypeId} (hg : ((w.alloc (.cells #[x0, x1, x2, x3] t)).alloc (.cells #[y0, y1, y2, y3] t)).grownBy w3 none) :
    w3.heap[w.heap.size]? = some (.cells #[x0, x1, x2, x3] t) ∧ w3.heap[w.heap.size + 1]? = some (.cells #[y0, y1, y2, y3] t) ∧ Below w.heap.size w w3 ∧ w.heap.size + 2 ≤ w3.heap.size := by
  have hs := hg.size
  simp at hs
  refine ⟨?_, ?_, ?_, by omega⟩
  · rw [hg.block w.heap.size (by simp; omega) (by simp), Below.heap_alloc _ _ _ (by simp), heap_alloc_new]
  · have e := heap_alloc_new (w.alloc (.cells #[x0, x1, x2, x3] t)) (.cells #[y0, y1, y2, y3] t)
    rw [hg.block (w.heap.size + 1) (by simp) (by simp)]
    simpa using e
  · exact ((((Below.refl _ _).alloc (Nat.le_refl _) _).alloc (by simp) _)).grown hg (by simp; omega) (by simp)

theorem block_cells {w : World} {b : Nat} {x0 x1 x2 x3 : Value} {t : TypeId} (h : w.heap[b]? = some (.cells #[x0, x1, x2, x3] t)) :
    w.cell? ⟨b, 0, none⟩ = some x0 ∧ w.cell? ⟨b, 1, none⟩ = some x1 ∧ w.cell? ⟨b, 2, none⟩ = some x2 ∧ w.cell? ⟨b, 3, none⟩ = some x3 ∧ ∀ j, w.frozen? ⟨b, j, none⟩ = false := by
  refine ⟨?_, ?_, ?_, ?_, fun j => ?_⟩
  all_goals simp [World.cell?, World.frozen?, h]

theorem boxes_cells {w w3 : World} {x0 x1 x2 x3 y0 y1 y2 y3 : Value} {t : TypeId} (hg : ((w.alloc (.cells #[x0, x1, x2, x3] t)).alloc (.cells #[y0, y1, y2, y3] t)).grownBy w3 none) :
    w3.cell? ⟨w.heap.size, 0, none⟩ = some x0 ∧ w3.cell? ⟨w.heap.size, 1, none⟩ = some x1 ∧ w3.cell? ⟨w.heap.size, 2, none⟩ = some x2 ∧ w3.cell? ⟨w.heap.size, 3, none⟩ = some x3 ∧
    w3.cell? ⟨w.heap.size + 1, 0, none⟩ = some y0 ∧ w3.cell? ⟨w.heap.size + 1, 1, none⟩ = some y1 ∧ w3.cell? ⟨w.heap.size + 1, 2, none⟩ = some y2 ∧ w3.cell? ⟨w.heap.size + 1, 3, none⟩ = some y3 ∧
    (∀ j, w3.frozen? ⟨w.heap.size, j, none⟩ = false) ∧ (∀ j, w3.frozen? ⟨w.heap.size + 1, j, none⟩ = false) ∧ Below w.heap.size w w3 ∧ w.heap.size + 2 ≤ w3.heap.size := by
  obtain ⟨p0, p1, hB, hs⟩ := boxes hg
  obtain ⟨a0, a1, a2, a3, fa⟩ := block_cells p0
  obtain ⟨b0, b1, b2, b3, fb⟩ := block_cells p1
  exact ⟨a0, a1, a2, a3, b0, b1, b2, b3, fa, fb, hB, hs⟩

set_option maxHeartbeats 2000000 in
theorem rwt_2 (a : Option Addr) (len cap : Nat) (zs : List Int) (w : World) (hbs : Hid (Bs w a len cap zs)) (tag : Int) (m : Nat) (ht : Hid (tk 10 zs 0 0 = (tag, (m : Int), 0))) (h1 : tag < 4294967296) (h2 : 8 ≤ tag) (h : tag % 8 = 2) (hm : m < len) (x : Int) (k : Nat) (hu : Hid (tk 10 (zs.drop m) 0 0 = (x, (k : Int), 0))) (hk : k ≤ len - m) (hx0 : 0 ≤ x) (hx : x ≤ ((len - m : Nat) : Int) - (k : Int)) (hck : k < cap - m) (hl6 : len ≤ 2000000) :
    Calls Try.prog 21 #[.slice a len cap] w fun e w' => ∃ a3 c3, e = fldEnd ⟨tag / 8, 2, 0, ((zs.drop m).take (k + x.toNat)).drop k, (m : Int) + (k : Int) + x, 0⟩ a3 x.toNat c3 ∧ Below w.heap.size w w' ∧ Bs w' a3 x.toNat c3 (((zs.drop m).take (k + x.toNat)).drop k) ∧ Fresh w.heap.size a3 x.toNat := by
  have hlc := hbs.out.2.2.2.1
  have hll := hbs.out.2.1
  obtain ⟨X, rfl⟩ : ∃ X : Nat, x = (X : Int) := ⟨x.toNat, by omega⟩
  have hmk : (m : Int) + (k : Int) + (X : Int) ≤ (len : Int) := by omega
  have B3 := (hbs.out.rest m (by omega) (by omega)).cut k (k + X) (by omega) (by omega)
  rw [if_neg (by omega), Option.map_map] at B3
  have HM : Hid _ := B3.mem
  have HB3 : Hid _ := B3
  clear B3
  have g1 : (k : Int) + (X : Int) ≤ ((cap - m : Nat) : Int) := by omega
  have U := fun o1 o2 => rtake_bs ((hbs.out.rest m (by omega) (by omega)).below (((Below.refl _ _).alloc (Nat.le_refl _) o1).alloc (by simp) o2) (Nat.le_refl _))
  rw [hu.out] at U
  have HU : Hid _ := U
  clear U
  have q := fun o => rtake_bs (hbs.out.below ((Below.refl _ _).alloc (Nat.le_refl _) o) (Nat.le_refl _))
  rw [ht.out] at q
  have Q : Hid _ := q
  clear q
  go_enter Try.func21, Try.ntmps21
  go_wp2_with fail
  refine Calls.mono (Q.out _) ?_
  rintro e w' ⟨rfl, rfl⟩
  rw [show tkEnd (tag, (m : Int), 0) = .returned (.tuple #[.int .u64 tag, .int .i64 (m : Int), .int .i64 0]) from rfl]
  go_wp2_with fail
  refine (rkind_any _ _).mono ?_
  rintro e w' ⟨rfl, rfl⟩
  rw [show kindOk 2 = true from rfl]
  go_wp2_with fail
  refine Calls.mono (HU.out _ _) ?_
  rintro e w' ⟨rfl, rfl⟩
  rw [show tkEnd ((X : Int), (k : Int), 0) = .returned (.tuple #[.int .u64 (X : Int), .int .i64 (k : Int), .int .i64 0]) from rfl]
  go_wp2_with (at_builtin; refine wpList_append_bs rfl _ _ rfl (w.heap.size + 2) _ 0 [] _ (k + X - k) _ (((zs.drop m).take (k + X)).drop k) rfl rfl (World.ownsRow_nil _ _ _ _) (Bs.below HB3.out (((Below.refl _ _).alloc (Nat.le_refl _) _).alloc (by simp) _) (Nat.le_refl _)) (by omega) (by simp) ?_; intro v3 w3 hown3 hgrow3; rw [Nat.zero_add, Nat.add_sub_cancel_left, List.nil_append] at hown3; obtain ⟨a3, c3, rfl⟩ := own_slice hown3; obtain ⟨s0, s1, s2, s3, r0, r1, r2, r3, f0, f1, hB3, hs3⟩ := boxes_cells hgrow3; clear hgrow3)
  refine bodyPost_ret (v := .tuple #[.agg #[.int .i64 (tag / 8), .int .i64 2, .int .u64 0, .slice a3 X c3], .int .i64 ((m : Int) + (k : Int) + (X : Int)), .int .i64 0]) (by simp [results, Try.results21, go_sem, s0, s1, s2, s3]) rfl ⟨a3, c3, rfl, ?_, ?_, ?_⟩
  · exact ((((hB3.setCell (Nat.le_succ _) _).setCell (Nat.le_refl _) _).setCell (Nat.le_refl _) _).setCell (Nat.le_refl _) _).setCell (Nat.le_refl _) _
  · rw [Int.toNat_natCast]
    have lt1 : w.heap.size + 1 < w.heap.size + 2 := by omega
    have lt0 : w.heap.size < w.heap.size + 2 := by omega
    exact Bs.of_owns (ownsRow_setCell_below (ownsRow_setCell_below (ownsRow_setCell_below (ownsRow_setCell_below (ownsRow_setCell_below hown3 (a := ⟨w.heap.size + 1, 3, none⟩) lt1 _) (a := ⟨w.heap.size, 0, none⟩) lt0 _) (a := ⟨w.heap.size, 1, none⟩) lt0 _) (a := ⟨w.heap.size, 2, none⟩) lt0 _) (a := ⟨w.heap.size, 3, none⟩) lt0 _) HM.out
  · rw [Int.toNat_natCast]; exact (Fresh.of_owns hown3).mono (by omega)

set_option maxHeartbeats 2000000 in
theorem rwt_2_edge (a : Option Addr) (len cap : Nat) (zs : List Int) (w : World) (hbs : Hid (Bs w a len cap zs)) (tag : Int) (m : Nat) (ht : Hid (tk 10 zs 0 0 = (tag, (m : Int), 0))) (h1 : tag < 4294967296) (h2 : 8 ≤ tag) (h : tag % 8 = 2) (hm : m < len) (x : Int) (k : Nat) (hu : Hid (tk 10 (zs.drop m) 0 0 = (x, (k : Int), 0))) (hx : x = 0) (hck : k = cap - m) (hcl : cap = len) :
    Calls Try.prog 21 #[.slice a len cap] w fun e w' => ∃ a3 c3, e = fldEnd ⟨tag / 8, 2, 0, [], (m : Int) + (k : Int), 0⟩ a3 0 c3 ∧ Below w.heap.size w w' ∧ Bs w' a3 0 c3 [] ∧ Fresh w.heap.size a3 0 := by
  have hlc := hbs.out.2.2.2.1
  have hll := hbs.out.2.1
  have hcl' : len = cap := hcl.symm
  clear hcl
  subst hcl'
  subst hx
  subst hck
  have g0 : (len : Int) ≤ 9223372036854775807 := by omega
  have g1 : (m : Int) + ((len - m : Nat) : Int) ≤ (len : Int) := by omega
  have HB3 : Hid (∀ o1 o2, Bs ((w.alloc o1).alloc o2) (Option.map (fun x => x.add m) a) 0 0 []) := fun o1 o2 => ⟨rfl, by omega, fun i => by simp, Nat.le_refl _, fun _ => rfl, fun h => absurd h (by omega)⟩
  have U := fun o1 o2 => rtake_bs ((hbs.out.rest m (by omega) (by omega)).below (((Below.refl _ _).alloc (Nat.le_refl _) o1).alloc (by simp) o2) (Nat.le_refl _))
  rw [hu.out] at U
  have HU : Hid _ := U
  clear U
  have q := fun o => rtake_bs (hbs.out.below ((Below.refl _ _).alloc (Nat.le_refl _) o) (Nat.le_refl _))
  rw [ht.out] at q
  have Q : Hid _ := q
  clear q
  go_enter Try.func21, Try.ntmps21
  go_wp2_with fail
  refine Calls.mono (Q.out _) ?_
  rintro e w' ⟨rfl, rfl⟩
  rw [show tkEnd (tag, (m : Int), 0) = .returned (.tuple #[.int .u64 tag, .int .i64 (m : Int), .int .i64 0]) from rfl]
  go_wp2_with fail
  refine (rkind_any _ _).mono ?_
  rintro e w' ⟨rfl, rfl⟩
  rw [show kindOk 2 = true from rfl]
  go_wp2_with fail
  refine Calls.mono (HU.out _ _) ?_
  rintro e w' ⟨rfl, rfl⟩
  rw [show tkEnd (0, ((len - m : Nat) : Int), 0) = .returned (.tuple #[.int .u64 0, .int .i64 ((len - m : Nat) : Int), .int .i64 0]) from rfl]
  go_wp2_with (at_builtin; refine wpList_append_bs rfl _ _ rfl (w.heap.size + 2) _ 0 [] _ 0 0 [] rfl rfl (World.ownsRow_nil _ _ _ _) (HB3.out _ _) (by omega) (by simp) ?_; intro v3 w3 hown3 hgrow3; obtain ⟨a3, c3, rfl⟩ := own_slice hown3; obtain ⟨s0, s1, s2, s3, r0, r1, r2, r3, f0, f1, hB3, hs3⟩ := boxes_cells hgrow3; clear hgrow3)
  refine bodyPost_ret (v := .tuple #[.agg #[.int .i64 (tag / 8), .int .i64 2, .int .u64 0, .slice a3 0 c3], .int .i64 ((m : Int) + ((len - m : Nat) : Int)), .int .i64 0]) (by simp [results, Try.results21, go_sem, s0, s1, s2, s3]) rfl ⟨a3, c3, rfl, ?_, ?_, ?_⟩
  · exact ((((hB3.setCell (Nat.le_succ _) _).setCell (Nat.le_refl _) _).setCell (Nat.le_refl _) _).setCell (Nat.le_refl _) _).setCell (Nat.le_refl _) _
  · have lt1 : w.heap.size + 1 < w.heap.size + 2 := by omega
    have lt0 : w.heap.size < w.heap.size + 2 := by omega
    exact Bs.of_owns (zs := []) (ownsRow_setCell_below (ownsRow_setCell_below (ownsRow_setCell_below (ownsRow_setCell_below (ownsRow_setCell_below hown3 (a := ⟨w.heap.size + 1, 3, none⟩) lt1 _) (a := ⟨w.heap.size, 0, none⟩) lt0 _) (a := ⟨w.heap.size, 1, none⟩) lt0 _) (a := ⟨w.heap.size, 2, none⟩) lt0 _) (a := ⟨w.heap.size, 3, none⟩) lt0 _) (by simp)
  · exact (Fresh.of_owns hown3).mono (by omega)

theorem bs_nil (w : World) : Bs w none 0 0 [] := ⟨rfl, by omega, fun i => by simp, Nat.le_refl _, fun _ => rfl, fun h => absurd h (by omega)⟩

/-- The reference's Take, whatever the bytes. -/
theorem rwt_any (a : Option Addr) (len cap : Nat) (zs : List Int) (w : World) (hbs : Hid (Bs w a len cap zs)) (hl6 : len ≤ 2000000) :
    Calls Try.prog 21 #[.slice a len cap] w fun e w' => ∃ a3 l3 c3, e = fldEnd (wtake zs) a3 l3 c3 ∧ Below w.heap.size w w' ∧ Bs w' a3 l3 c3 (wtake zs).zs ∧ Fresh w.heap.size a3 l3 := by
  have no : ∀ x, (Calls Try.prog 21 #[.slice a len cap] w fun e w' => e = fldEnd (.no x) none 0 0 ∧ Below w.heap.size w w') → wtake zs = .no x →
      Calls Try.prog 21 #[.slice a len cap] w fun e w' => ∃ a3 l3 c3, e = fldEnd (wtake zs) a3 l3 c3 ∧ Below w.heap.size w w' ∧ Bs w' a3 l3 c3 (wtake zs).zs ∧ Fresh w.heap.size a3 l3 := by
    intro x q hx
    rw [hx]
    exact q.mono fun e w' ⟨he, hb⟩ => ⟨none, 0, 0, he, hb, bs_nil w', fun x h => absurd h (by omega)⟩
  have yes : ∀ r, r.zs = [] → (Calls Try.prog 21 #[.slice a len cap] w fun e w' => e = fldEnd r none 0 0 ∧ Below w.heap.size w w') → wtake zs = r →
      Calls Try.prog 21 #[.slice a len cap] w fun e w' => ∃ a3 l3 c3, e = fldEnd (wtake zs) a3 l3 c3 ∧ Below w.heap.size w w' ∧ Bs w' a3 l3 c3 (wtake zs).zs ∧ Fresh w.heap.size a3 l3 := by
    intro r hr q hx
    rw [hx]
    exact q.mono fun e w' ⟨he, hb⟩ => ⟨none, 0, 0, he, hb, by rw [hr]; exact bs_nil w', fun x h => absurd h (by omega)⟩
  have hzl := hbs.out.1
  have hlc := hbs.out.2.2.2.1
  rcases tk_ways zs hbs.out.mem with h | ⟨tag, m, h, t0, t1, m0, m1, m2⟩
  · exact no 10 (rwt_none a len cap zs w hbs h) (by unfold wtake; rw [h]; rfl)
  · by_cases hok : tagOk tag = true
    · have hw : wtake zs = wworth tag m (zs.drop m) := by unfold wtake; rw [h]; simp [hok]
      simp only [tagOk, Bool.and_eq_true, decide_eq_true_eq] at hok
      obtain ⟨⟨g1, g2⟩, g3⟩ := hok
      have hdl : (zs.drop m).length = len - m := by simp [hzl]
      have hdb : ∀ c ∈ zs.drop m, 0 ≤ c ∧ c ≤ 255 := fun c hc => hbs.out.mem c (List.mem_of_mem_drop hc)
      rcases kind_cases g3 with hk | hk | hk | hk
      · rcases tk_ways (zs.drop m) hdb with h' | ⟨x, k, h', x0, x1, k0, k1, k2⟩
        · have hr : wtake zs = .no 10 := by rw [hw]; simp [wworth, hk, h']
          by_cases hc : m < cap
          · exact no 10 (rwt_0_none a len cap zs w hbs tag m h g1 g2 hk (by omega) hc h') hr
          · exact no 10 (rwt_0_end a len cap zs w hbs tag m h g1 g2 hk (by omega) (by omega)) hr
        · refine yes _ rfl (rwt_0 a len cap zs w hbs tag m h g1 g2 hk (by omega) x k h' (by omega)) ?_
          rw [hw]; simp [wworth, hk, h']
      · by_cases hs : m + 8 ≤ len
        · refine yes _ rfl (rwt_1 a len cap zs w hbs tag m h g1 g2 hk hs) ?_
          rw [hw]; simp only [wworth, hk, if_true, hdl]; rw [if_neg (by omega)]
        · refine no 21 (rwt_1_short a len cap zs w hbs tag m h g1 g2 hk (by omega) (by omega)) ?_
          rw [hw]; simp only [wworth, hk, if_true, hdl]; rw [if_pos (by omega)]
      · rcases tk_ways (zs.drop m) hdb with h' | ⟨x, k, h', x0, x1, k0, k1, k2⟩
        · have hr : wtake zs = .no 10 := by rw [hw]; simp [wworth, hk, h']
          by_cases hc : m < cap
          · exact no 10 (rwt_2_none a len cap zs w hbs tag m h g1 g2 hk (by omega) hc h') hr
          · exact no 10 (rwt_2_end a len cap zs w hbs tag m h g1 g2 hk (by omega) (by omega)) hr
        · by_cases hx : x ≤ ((len - m : Nat) : Int) - (k : Int)
          · have hr : wtake zs = ⟨tag / 8, 2, 0, ((zs.drop m).take (k + x.toNat)).drop k, (m : Int) + (k : Int) + x, 0⟩ := by
              rw [hw]
              have e : ((k : Int) + x).toNat = k + x.toNat := by omega
              have hx' : x ≤ ((zs.drop m).length : Int) - (k : Int) := by rw [hdl]; exact hx
              simp only [wworth, hk, h', e, if_pos hx', Int.toNat_natCast]
              rfl
            rw [hr]
            by_cases hc : k < cap - m
            · exact (rwt_2 a len cap zs w hbs tag m h g1 g2 hk (by omega) x k h' (by omega) x0 hx hc hl6).mono fun e w' ⟨a3, c3, h1, h2, h3, h4⟩ => ⟨a3, _, c3, h1, h2, h3, h4⟩
            · have ex : x = 0 := by omega
              refine (rwt_2_edge a len cap zs w hbs tag m h g1 g2 hk (by omega) x k h' ex (by omega) (by omega)).mono fun e w' ⟨a3, c3, h1, h2, h3, h4⟩ => ⟨a3, 0, c3, ?_, h2, ?_, h4⟩
              · rw [h1, ex]
                have e0 : ((zs.drop m).take (k + (0 : Int).toNat)).drop k = [] := by simp
                rw [e0]
                simp [fldEnd]
              · rw [ex]
                simpa using h3
          · refine no 21 (rwt_2_short a len cap zs w hbs tag m h g1 g2 hk (by omega) x k h' (by omega) (by omega)) ?_
            have hx' : ¬ x ≤ ((zs.drop m).length : Int) - (k : Int) := by rw [hdl]; exact hx
            rw [hw]
            simp only [wworth, hk, h', if_neg hx']
            rfl
      · by_cases hs : m + 4 ≤ len
        · refine yes _ rfl (rwt_5 a len cap zs w hbs tag m h g1 g2 hk hs) ?_
          rw [hw]; simp only [wworth, hk, hdl]; rw [if_neg (by omega), if_pos trivial, if_neg (by omega)]
        · refine no 21 (rwt_5_short a len cap zs w hbs tag m h g1 g2 hk (by omega) (by omega)) ?_
          rw [hw]; simp only [wworth, hk, hdl]; rw [if_neg (by omega), if_pos trivial, if_pos (by omega)]
    · have hr : wtake zs = .no 20 := by unfold wtake; rw [h]; simp [hok]
      by_cases g1 : 4294967296 ≤ tag
      · exact no 20 (rwt_high a len cap zs w hbs tag m h g1) hr
      · by_cases g2 : tag < 8
        · exact no 20 (rwt_low a len cap zs w hbs tag m h g2) hr
        · refine no 20 (rwt_kind a len cap zs w hbs tag m h (by omega) (by omega) ?_) hr
          simp only [tagOk, Bool.and_eq_true, decide_eq_true_eq] at hok
          cases hk : kindOk (tag % 8) with
          | false => rfl
          | true => exact absurd ⟨⟨by omega, by omega⟩, hk⟩ hok

end Go.Proofs.Ytjbppjemilijdaa

/- The program's own wire.Take: known, takeTag, takeWorth, over the turned text; of a field's bytes nothing is said. -/
namespace Go.Proofs.Ytjbppjemilijdaa
open Go.RowKit
set_option linter.unusedVariables false

/-- The number that the bytes begin with: the program's own answer. -/
theorem ptk_bs {w : World} {a : Option Addr} {len cap : Nat} {zs : List Int} (h : Bs w a len cap zs) :
    Calls Try.prog 82 #[.slice a len cap] w fun e w' => e = tkEnd (tk 10 zs 0 0) ∧ w = w' := by
  obtain ⟨h1, h2, h3, h4, h5, h6⟩ := h
  by_cases hp : 0 < len
  · obtain ⟨b, off, rfl, _, hc⟩ := h6 hp
    exact take_any b off len cap zs w h1 h2 hc h3
  · have hl : len = 0 := by omega
    subst hl
    have hz : zs = [] := List.eq_nil_of_length_eq_zero h1
    subst hz
    exact take_none a cap w

theorem puf_bs {w : World} {a : Option Addr} {len cap : Nat} {zs : List Int} (h : Bs w a len cap zs) :
    Calls Try.prog 84 #[.slice a len cap] w fun e w' => e = .returned (.int .u64 (uf (zs.take 8))) ∧ w = w' := by
  obtain ⟨h1, h2, h3, h4, h5, h6⟩ := h
  by_cases hp : 0 < len
  · obtain ⟨b, off, rfl, _, hc⟩ := h6 hp
    exact unfixed_any b off len cap zs w h1 h2 hc h3
  · have hl : len = 0 := by omega
    subst hl
    have hz : zs = [] := List.eq_nil_of_length_eq_zero h1
    subst hz
    exact unfixed_none a cap w

set_option maxHeartbeats 400000 in
theorem pknown_any (k : Int) (w : World) :
    Calls Try.prog 83 #[.int .i64 k] w fun e w' => e = .returned (.bool (kindOk k)) ∧ w = w' := by
  by_cases e0 : k = 0
  · subst e0
    go_enter Try.func83, Try.ntmps83
    go_wp2
    go_ret
    exact ⟨rfl, rfl⟩
  by_cases e1 : k = 1
  · subst e1
    go_enter Try.func83, Try.ntmps83
    go_wp2
    go_ret
    exact ⟨rfl, rfl⟩
  by_cases e2 : k = 2
  · subst e2
    go_enter Try.func83, Try.ntmps83
    go_wp2
    go_ret
    exact ⟨rfl, rfl⟩
  by_cases e5 : k = 5
  · subst e5
    go_enter Try.func83, Try.ntmps83
    go_wp2
    go_ret
    exact ⟨rfl, rfl⟩
  have E : Hid (kindOk k = false) := by show _ = _; simp [kindOk, e0, e1, e2, e5]
  have f0 : (k == 0) = false := by simpa using e0
  have f1 : (k == 1) = false := by simpa using e1
  have f2 : (k == 2) = false := by simpa using e2
  have f5 : (k == 5) = false := by simpa using e5
  clear e0 e1 e2 e5
  go_enter Try.func83, Try.ntmps83
  go_wp2
  go_ret
  exact ⟨by rw [E.out]; rfl, rfl⟩

/-- What takeTag answers: number, kind, bytes, error. -/
def wtag (zs : List Int) : Int × Int × Int × Int :=
  if (tk 10 zs 0 0).2.2 = 0 then (if tagOk (tk 10 zs 0 0).1 then ((tk 10 zs 0 0).1 / 8, (tk 10 zs 0 0).1 % 8, (tk 10 zs 0 0).2.1, 0) else (0, 0, 0, 20)) else (0, 0, 0, 10)

def tagEnd (r : Int × Int × Int × Int) : Ending := .returned (.tuple #[.agg #[.int .i64 r.1, .int .i64 r.2.1, .int .u64 0, .slice none 0 0], .int .i64 r.2.2.1, .int .i64 r.2.2.2])

set_option maxHeartbeats 1000000 in
theorem ptag_any (a : Option Addr) (len cap : Nat) (zs : List Int) (w : World) (hbs : Hid (Bs w a len cap zs)) :
    Calls Try.prog 50 #[.slice a len cap] w fun e w' => e = tagEnd (wtag zs) ∧ Below w.heap.size w w' := by
  have q := fun o => ptk_bs (hbs.out.below ((Below.refl _ _).alloc (Nat.le_refl _) o) (Nat.le_refl _))
  rcases tk_ways zs hbs.out.mem with h | ⟨tag, m, h, t0, t1, m0, m1, m2⟩
  · have E : Hid (wtag zs = (0, 0, 0, 10)) := by show _ = _; unfold wtag; rw [h]; rfl
    rw [h] at q
    have Q : Hid _ := q
    clear q
    go_enter Try.func50, Try.ntmps50
    go_wp2_with fail
    refine Calls.mono (Q.out _) ?_
    rintro e w' ⟨rfl, rfl⟩
    rw [show tkEnd (0, 0, 10) = .returned (.tuple #[.int .u64 0, .int .i64 0, .int .i64 10]) from rfl]
    go_wp2
    exact bodyPost_ret (v := .tuple #[.agg #[.int .i64 0, .int .i64 0, .int .u64 0, .slice none 0 0], .int .i64 0, .int .i64 10]) (by simp [results, Try.results50, go_sem]) rfl ⟨by rw [E.out]; rfl, (Below.refl _ _).alloc (Nat.le_refl _) _⟩
  rw [h] at q
  have Q : Hid _ := q
  clear q
  have hand : bits .and .u64 tag 7 = tag % 8 := by
    rw [u64_and tag 7 t0 (by omega) (by omega) (by omega), show (7 : Int).toNat = 7 from rfl, nat_mask3]
    omega

  by_cases hhi : 4294967296 ≤ tag
  · have E : Hid (wtag zs = (0, 0, 0, 20)) := by
      show _ = _; unfold wtag; rw [h]; simp [tagOk]; omega
    go_enter Try.func50, Try.ntmps50
    go_wp2_with fail
    refine Calls.mono (Q.out _) ?_
    rintro e w' ⟨rfl, rfl⟩
    rw [show tkEnd (tag, (m : Int), 0) = .returned (.tuple #[.int .u64 tag, .int .i64 (m : Int), .int .i64 0]) from rfl]
    go_wp2
    exact bodyPost_ret (v := .tuple #[.agg #[.int .i64 0, .int .i64 0, .int .u64 0, .slice none 0 0], .int .i64 0, .int .i64 20]) (by simp [results, Try.results50, go_sem]) rfl ⟨by rw [E.out]; rfl, (Below.refl _ _).alloc (Nat.le_refl _) _⟩
  by_cases hlo : tag < 8
  · have E : Hid (wtag zs = (0, 0, 0, 20)) := by
      show _ = _; unfold wtag; rw [h]; simp [tagOk]; omega
    have hz : tag / 8 = 0 := by omega
    go_enter Try.func50, Try.ntmps50
    go_wp2_with fail
    refine Calls.mono (Q.out _) ?_
    rintro e w' ⟨rfl, rfl⟩
    rw [show tkEnd (tag, (m : Int), 0) = .returned (.tuple #[.int .u64 tag, .int .i64 (m : Int), .int .i64 0]) from rfl]
    go_wp2
    all_goals exact bodyPost_ret (v := .tuple #[.agg #[.int .i64 0, .int .i64 0, .int .u64 0, .slice none 0 0], .int .i64 0, .int .i64 20]) (by simp [results, Try.results50, go_sem]) rfl ⟨by rw [E.out]; rfl, (Below.refl _ _).alloc (Nat.le_refl _) _⟩
  have hne : (tag / 8 == 0) = false := by simp; omega
  cases hk : kindOk (tag % 8) with
  | false =>
    have E : Hid (wtag zs = (0, 0, 0, 20)) := by
      show _ = _; unfold wtag; rw [h]; simp [tagOk, hk]
    go_enter Try.func50, Try.ntmps50
    go_wp2_with fail
    refine Calls.mono (Q.out _) ?_
    rintro e w' ⟨rfl, rfl⟩
    rw [show tkEnd (tag, (m : Int), 0) = .returned (.tuple #[.int .u64 tag, .int .i64 (m : Int), .int .i64 0]) from rfl]
    go_wp2_with fail
    refine (pknown_any _ _).mono ?_
    rintro e w' ⟨rfl, rfl⟩
    rw [hk]
    go_wp2
    all_goals exact bodyPost_ret (v := .tuple #[.agg #[.int .i64 0, .int .i64 0, .int .u64 0, .slice none 0 0], .int .i64 0, .int .i64 20]) (by simp [results, Try.results50, go_sem]) rfl ⟨by rw [E.out]; rfl, (Below.refl _ _).alloc (Nat.le_refl _) _⟩
  | true =>
    have E : Hid (wtag zs = (tag / 8, tag % 8, (m : Int), 0)) := by
      show _ = _; unfold wtag; rw [h]; simp [tagOk, hk]; omega
    go_enter Try.func50, Try.ntmps50
    go_wp2_with fail
    refine Calls.mono (Q.out _) ?_
    rintro e w' ⟨rfl, rfl⟩
    rw [show tkEnd (tag, (m : Int), 0) = .returned (.tuple #[.int .u64 tag, .int .i64 (m : Int), .int .i64 0]) from rfl]
    go_wp2_with fail
    refine (pknown_any _ _).mono ?_
    rintro e w' ⟨rfl, rfl⟩
    rw [hk]
    go_wp2
    all_goals exact bodyPost_ret (v := .tuple #[.agg #[.int .i64 (tag / 8), .int .i64 (tag % 8), .int .u64 0, .slice none 0 0], .int .i64 (m : Int), .int .i64 0]) (by simp [results, Try.results50, go_sem]) rfl ⟨by rw [E.out]; rfl, (Below.refl _ _).alloc (Nat.le_refl _) _⟩

end Go.Proofs.Ytjbppjemilijdaa
