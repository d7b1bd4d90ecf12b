/- The program's own Synthetic. -/
import Derived.Test.YtmpdgdjjjgnpiaaNPe
import Derived.Test.YtmpdgdjjjgnpiaaNRp
import Derived.Deep.OwnRows
import Derived.Lib.Repeat
namespace Go.Proofs.Ytmpdgdjjjgnpiaa
open Go.RowKit
set_option linter.unusedVariables false
set_option linter.unusedSimpArgs false

theorem nsyn_in (t : List (List Int)) (f : Nat) (s : List Int) (h : s ∈ t) : nsyn t (f + 1) s = nsyn t f (88 :: s) := by rw [nsyn, if_pos h]

theorem nsyn_nxs (t : List (List Int)) : ∀ (k f : Nat) (s : List Int), (∀ j, j < k → nxs j s ∈ t) → k ≤ f → (nxs k s ∉ t ∨ k = f) → nsyn t f s = nxs k s
  | 0, f, s, _, _, h => by
    rcases h with h | h
    · exact nsyn_stay t f s h
    · subst h; rfl
  | k + 1, f, s, h1, h2, h3 => by
    obtain ⟨f', rfl⟩ : ∃ f', f = f' + 1 := ⟨f - 1, by omega⟩
    rw [nsyn_in t f' s (h1 0 (by omega)), nsyn_nxs t k f' (88 :: s) (fun j hj => by rw [nxs_out]; exact h1 (j + 1) (by omega)) (by omega) (by rw [nxs_out]; rcases h3 with h | h; exact .inl h; exact .inr (by omega)), nxs_out]
    rfl

theorem nxs_app (s : List Int) : ∀ k, nxs k s = nxs k [] ++ s
  | 0 => rfl
  | k + 1 => by rw [nxs, nxs_app s k]; rfl

theorem nxs_take : ∀ n k, k ≤ n → (nxs n []).take k = nxs k []
  | n, 0, _ => rfl
  | 0, k + 1, h => by omega
  | n + 1, k + 1, h => by rw [nxs, nxs, List.take_succ_cons, nxs_take n k (by omega)]

theorem nxs_bd : ∀ k, byts (nxs k [])
  | 0 => by intro c hc; simp [nxs] at hc
  | k + 1 => by
    intro c hc
    rw [nxs] at hc
    rcases List.mem_cons.1 hc with rfl | hc
    · omega
    · exact nxs_bd k c hc

theorem nxs_rep : ∀ k, (Lib.repeatL [88] k) = (nxs k []).map (fun z => UInt8.ofNat z.toNat)
  | 0 => rfl
  | k + 1 => by rw [Lib.repeatL, nxs_rep k, nxs]; rfl

/-- A name is one of those that come in question just if its pieces are. -/
theorem nxs_iff (t s : List Int) (k : Nat) (hk : t.length = k + s.length) : t = nxs k s ↔ t.drop k = s ∧ t.take k = nxs k [] := by
  rw [nxs_app s k]
  have hl := nxs_len [] k
  simp only [List.length_nil, Nat.add_zero] at hl
  constructor
  · intro h
    subst h
    rw [List.drop_append_of_le_length (by omega), List.take_append_of_le_length (by omega), List.drop_of_length_le (by omega), List.take_of_length_le (by omega)]
    exact ⟨rfl, rfl⟩
  · rintro ⟨h1, h2⟩
    rw [← h1, ← h2, List.take_append_drop]

set_option maxHeartbeats 1000000 in
theorem pidx_any {w : World} {b n : Nat} {m : Nat → Bool} (hb : Hid (w.rowIs b 4 n (fun i => .bool (m i)))) (K : Nat) (hK : K < n) (hn : n ≤ 1000000) (hlo : Hid (∀ j, j < K → m j = true)) (hk : Hid (m K = false)) :
    Calls Try.prog 42 #[.slice (some ⟨b, 0, none⟩) n n, .bool false] w fun e w' => e = .returned (.int .i64 (K : Int)) ∧ w = w' := by
  have hbl := hb.out.lt
  go_enter Try.func42, Try.ntmps42
  go_wp2
  go_loopw [8] (fun v wr => ∃ k : Nat, v = .int .i64 (k : Int) ∧ k ≤ K ∧ w = wr) (fun v _ => n - (intOf v).toNat)
  case atStart => exact ⟨0, rfl, by omega, rfl⟩
  case round =>
    obtain ⟨k, rfl, hkK, rfl⟩ := hrel
    have hc := hb.out.cell (i := k) (by omega)
    have hkn : k < n := by omega
    by_cases e : k = K
    · subst e
      rw [hk.out] at hc
      go_wp2
      go_ret
      exact ⟨rfl, rfl⟩
    · rw [hlo.out k (by omega)] at hc
      have HE : Hid (k + 1 ≤ K) := by show _ ≤ _; omega
      clear e
      go_wp2
      go_roundw
      case rel => exact ⟨k + 1, by go_num, HE.out, by first | rfl | trivial⟩
      case measure => simp [intOf]; omega

/-- The least place that is not marked. -/
theorem least_unmarked (m : Nat → Bool) : ∀ n, m n = false → ∃ K, K ≤ n ∧ (∀ j, j < K → m j = true) ∧ m K = false
  | 0, h => ⟨0, by omega, fun j hj => absurd hj (by omega), h⟩
  | n + 1, h => by
    by_cases h0 : m 0 = false
    · exact ⟨0, by omega, fun j hj => absurd hj (by omega), h0⟩
    · obtain ⟨K, h1, h2, h3⟩ := least_unmarked (fun j => m (j + 1)) n h
      refine ⟨K + 1, by omega, fun j hj => ?_, h3⟩
      cases j with
      | zero => simpa using h0
      | succ j => exact h2 j (by omega)

theorem Try.infoBool : (Try.prog.info? 4).map (fun i => (i.zero, i.size, i.bytes)) = some (some (.bool false), 1, 1) := by kernel_rfl

theorem hdrewN {B : Nat} {w w' : World} (h : Below B w w') : ∀ n, Below B w (w'.drewN n) := fun n => ⟨h.os, h.tape, h.output, h.size, h.block⟩

theorem wrap_facts (x : Int) (h : -20000 ≤ x) : IntKind.i64.wrap x ≤ max x 0 ∧ (x ≤ 9223372036854775807 → IntKind.i64.wrap x = x) := by
  have hw : IntKind.i64.wrap x = if x % 18446744073709551616 ≥ 9223372036854775808 then x % 18446744073709551616 - 18446744073709551616 else x % 18446744073709551616 := by
    simp [IntKind.wrap, IntKind.signed, IntKind.bits]
  rw [hw]
  constructor
  · split <;> omega
  · intro h2
    split <;> omega

/-- A name marks its place. -/
def nmk (n : Nat) (s : List Int) (zs : List (List Int)) (k : Nat) : Bool := decide (k < n ∧ nxs k s ∈ zs)

theorem nmk_more {n k : Nat} {s t : List Int} {zs : List (List Int)} (hk : k < n) (ht : t = nxs k s) (j : Nat) : nmk n s (zs ++ [t]) j = if j = k then true else nmk n s zs j := by
  subst ht
  unfold nmk
  by_cases e : j = k
  · subst e
    rw [if_pos rfl]
    exact decide_eq_true ⟨hk, by simp⟩
  · rw [if_neg e]
    have hne : nxs j s ≠ nxs k s := fun h => by
      have := congrArg List.length h
      rw [nxs_len, nxs_len] at this
      omega
    simp [hne]

theorem nmk_same {n : Nat} {s t : List Int} {zs : List (List Int)} (h : ∀ k, k < n → t ≠ nxs k s) (j : Nat) : nmk n s (zs ++ [t]) j = nmk n s zs j := by
  unfold nmk
  rw [decide_eq_decide]
  constructor
  · rintro ⟨h1, h2⟩
    rcases List.mem_append.1 h2 with h3 | h3
    · exact ⟨h1, h3⟩
    · rw [List.mem_singleton] at h3
      exact absurd h3.symm (h j h1)
  · rintro ⟨h1, h2⟩
    exact ⟨h1, by simp [h2]⟩

theorem cut_to (t : List Int) (k : Nat) (kk : Int) (hk : kk = (k : Int)) (h : k ≤ t.length) : ∀ W, (Instr.slice 9 (.string (strOfNums t)) none (some (.int .i64 kk)) none).run Try.prog W = .ok (.string (strOfNums (t.take k))) W := fun W => by
  subst hk
  rw [run_slice_string_h W 9 (strOfNums t) Try.underlying9 .i64 (k : Int) (by omega) (by rw [strOfNums_size]; omega)]
  simp only [Int.toNat_natCast]
  rw [str_cut]
  simp

theorem cut_from (t : List Int) (k : Nat) (kk : Int) (hk : kk = (k : Int)) (h : k ≤ t.length) : ∀ W, (Instr.slice 9 (.string (strOfNums t)) (some (.int .i64 kk)) none none).run Try.prog W = .ok (.string (strOfNums (t.drop k))) W := fun W => by
  rw [run_cut_to (strOfNums t) k kk hk (by rw [strOfNums_size]; exact h) W, str_cut, strOfNums_size, List.take_of_length_le (by simp)]

set_option maxRecDepth 10000 in
set_option maxHeartbeats 4000000 in
theorem psyn_any {a : Option Addr} {len cap : Nat} {zs : List (List Int)} (s : List Int) (w : World) (hT : Hid (NTab w)) (hS : Hid (Ss w a len cap zs)) (hs : Hid (byts s)) (hl : s.length ≤ 10000) (hlen : len ≤ 10000) :
    Calls Try.prog 27 #[.string (strOfNums s), .slice a len cap] w fun e w' => e = .returned (.string (strOfNums (nsyn zs len (95 :: s)))) ∧ Below w.heap.size w w' := by
  obtain ⟨h1, h2, h3, h4, h5, h6⟩ := hS.out
  have HL : Hid (zs.length = len) := h1
  have H5 : Hid (∀ z ∈ zs, byts z) := h5
  have H6 : Hid _ := h6
  have ha : ∀ W, (Op.stringOp .add { data := #[95] } (strOfNums s)).run Try.prog W = .ok (.string (strOfNums (95 :: s))) W := fun W => run_add W [95] s (by simp; omega)
  obtain ⟨f, hf⟩ : ∃ f, f = 95 :: s := ⟨_, rfl⟩
  have HF : Hid (f = 95 :: s) := hf
  have hfl : f.length = s.length + 1 := by rw [hf]; rfl
  have HFB : Hid (byts f) := by
    rw [hf]
    intro c hc
    rcases List.mem_cons.1 hc with rfl | hc
    · omega
    · exact hs.out c hc
  rw [← hf] at ha ⊢
  have QR : Hid _ := Sh.strings_Repeat { data := #[88] } len w (by omega) (by simp [ByteArray.size]; omega)
  have hrep : (⟨(Lib.repeatL ({ data := #[88] } : ByteArray).data.toList len).toArray⟩ : ByteArray) = strOfNums (nxs len []) := by
    show (⟨(Lib.repeatL [88] len).toArray⟩ : ByteArray) = _
    rw [nxs_rep]
    rfl
  rw [hrep] at QR
  obtain ⟨ah, hah⟩ : ∃ ah, ah = nxs len [] := ⟨_, rfl⟩
  have HAH : Hid (ah = nxs len []) := hah
  have hahl : ah.length = len := by rw [hah, nxs_len]; simp
  rw [← hah] at QR
  have hmk : ∀ W, (Instr.makeSlice 44 (.int .i64 ((len : Int) + 1)) (.int .i64 ((len : Int) + 1))).run Try.prog W = .ok (.slice (some ⟨W.heap.size, 0, none⟩) (len + 1) (len + 1)) (W.alloc (.cells (madeCells #[.bool false] (len + 1)) 4)) := fun W => by
    have := run_make_row' (P := Try.prog) 44 4 (.bool false) 1 Try.underlying44 Try.infoBool rfl .i64 .i64 (len + 1) (by omega) (by omega) W
    simpa using this
  have hsf := strOfNums_size f
  have hsa := strOfNums_size ah
  have HFL : Hid (f.length = s.length + 1) := hfl
  have HAL : Hid (ah.length = len) := hahl
  clear hfl hahl hf h1 h4 h5 h6 hrep hah
  go_enter Try.func27, Try.ntmps27
  go_wp2_with fail
  refine Calls.mono QR.out ?_
  rintro e w1 ⟨rfl, hb1⟩
  clear QR
  go_wp2
  go_loopw [22] (fun v wr => ∃ k : Nat, v = .int .i64 (k : Int) ∧ k ≤ len ∧ Hid (wr.rowIs w1.heap.size 4 (len + 1) (fun i => .bool (nmk len f (zs.take k) i))) ∧ Hid (Below w.heap.size w wr)) (fun v _ => len - (intOf v).toNat)
  case atStart =>
    refine ⟨0, rfl, by omega, ?_, hb1.alloc hb1.size _⟩
    refine (World.rowIs_made w1 (.bool false) (len + 1) 4).congr (fun i _ => ?_)
    simp [nmk]
  case round =>
    obtain ⟨k, rfl, hk, HR, HB⟩ := hrel
    by_cases hkl : k < len
    · obtain ⟨b, off, rfl, hlt, hc⟩ := H6.out (by omega)
      obtain ⟨t, ht⟩ : ∃ t, zs[k]? = some t := ⟨zs[k]'(by rw [HL.out]; exact hkl), List.getElem?_eq_getElem (by rw [HL.out]; exact hkl)⟩
      have hct : wr.cell? ⟨b, off + k, none⟩ = some (.string (strOfNums t)) := (HB.out.cell hlt).trans (hc k t ht)
      have hbw : b < wr.heap.size := Nat.lt_of_lt_of_le hlt HB.out.size
      have HTB : Hid (byts t) := H5.out t (List.mem_of_getElem? ht)
      have HTK : Hid (zs.take (k + 1) = zs.take k ++ [t]) := by show _ = _; rw [List.take_add_one, ht]; rfl
      obtain ⟨c, hc9⟩ : ∃ c, c = IntKind.i64.wrap ((t.length : Int) - (f.length : Int)) := ⟨_, rfl⟩
      obtain ⟨hc1, hc2⟩ := wrap_facts ((t.length : Int) - (f.length : Int)) (by have := HFL.out; omega)
      rw [← hc9] at hc1 hc2
      have hst := strOfNums_size t
      have hwr : IntKind.i64.wrap ((t.length : Int) - (f.length : Int)) = c := hc9.symm
      have HN : ∀ j, j < len → t = nxs j f → c = (j : Int) := fun j hj e => by
        have h9 : t.length = j + f.length := by rw [e, nxs_len]
        omega
      by_cases k1 : c < 0
      · have HR2 : Hid (∀ n, (wr.drewN n).rowIs w1.heap.size 4 (len + 1) (fun i => .bool (nmk len f (zs.take (k + 1)) i))) := fun n => by
          rw [HTK.out]
          refine World.rowIs.congr (f := fun i => .bool (nmk len f (zs.take k) i)) (HR.out.of_block rfl) (fun i _ => ?_)
          rw [nmk_same (fun j hj e => ?_)]
          have := HN j hj e
          omega
        have HB2 : Hid (∀ n, Below w.heap.size w (wr.drewN n)) := fun n => HB.out.trans ((hdrewN (Below.refl _ _) _).mono HB.out.size)
        have d1 : decide (0 ≤ c) = false := decide_eq_false (by omega)
        clear HN hc1 hc2 hc9 HTK ht hc
        go_wp2
        go_quiet (fail)
        rename_i K _ hK
        refine hK _ _ ?_
        go_wp2
        go_roundw
        case rel => first | exact ⟨k + 1, by go_num, by omega, HR2.out _, HB2.out _⟩ | ((repeat apply Exists.intro); exact ⟨⟨k + 1, by go_num, by omega, HR2.out _, HB2.out _⟩, rfl⟩)
        case measure => simp [intOf]; omega
      by_cases k2 : (len : Int) ≤ c
      · have HR2 : Hid (∀ n, (wr.drewN n).rowIs w1.heap.size 4 (len + 1) (fun i => .bool (nmk len f (zs.take (k + 1)) i))) := fun n => by
          rw [HTK.out]
          refine World.rowIs.congr (f := fun i => .bool (nmk len f (zs.take k) i)) (HR.out.of_block rfl) (fun i _ => ?_)
          rw [nmk_same (fun j hj e => ?_)]
          have := HN j hj e
          omega
        have HB2 : Hid (∀ n, Below w.heap.size w (wr.drewN n)) := fun n => HB.out.trans ((hdrewN (Below.refl _ _) _).mono HB.out.size)
        have d1 : decide (0 ≤ c) = true := decide_eq_true (by omega)
        have d2 : decide (c < (len : Int)) = false := decide_eq_false (by omega)
        clear HN hc1 hc2 hc9 HTK ht hc
        go_wp2
        go_quiet (fail)
        rename_i K _ hK
        refine hK _ _ ?_
        go_wp2
        go_roundw
        case rel => first | exact ⟨k + 1, by go_num, by omega, HR2.out _, HB2.out _⟩ | ((repeat apply Exists.intro); exact ⟨⟨k + 1, by go_num, by omega, HR2.out _, HB2.out _⟩, rfl⟩)
        case measure => simp [intOf]; omega
      obtain ⟨m, hm⟩ : ∃ m : Nat, c = (m : Int) := ⟨c.toNat, by omega⟩
      have hml : m < len := by omega
      have hmt : m ≤ t.length := by
        have : max ((t.length : Int) - (f.length : Int)) 0 ≤ (t.length : Int) := by omega
        omega
      have HM : Hid (c = (m : Int)) := hm
      have HML : Hid (m < len) := hml
      have s1 := cut_from t m c hm hmt
      have s2 := cut_to t m c hm hmt
      have s3 := cut_to ah m c hm (by rw [HAL.out]; omega)
      have e3 : ah.take m = nxs m [] := by rw [HAH.out, nxs_take _ _ (by omega)]
      rw [e3] at s3
      have HBM := nxs_bd m
      have HBD : byts (t.drop m) := fun x hx => HTB.out x (List.mem_of_mem_drop hx)
      have HBT : byts (t.take m) := fun x hx => HTB.out x (List.mem_of_mem_take hx)
      have q1 : ((strOfNums (t.drop m)).toList == (strOfNums f).toList) = decide (t.drop m = f) := (str_eq HBD HFB.out).trans (by rw [Bool.eq_iff_iff]; simp)
      have q2 : ((strOfNums (t.take m)).toList == (strOfNums (nxs m [])).toList) = decide (t.take m = nxs m []) := (str_eq HBT HBM).trans (by rw [Bool.eq_iff_iff]; simp)
      by_cases k3 : ¬ t.drop m = f
      · have HR2 : Hid (∀ n, (wr.drewN n).rowIs w1.heap.size 4 (len + 1) (fun i => .bool (nmk len f (zs.take (k + 1)) i))) := fun n => by
          rw [HTK.out]
          refine World.rowIs.congr (f := fun i => .bool (nmk len f (zs.take k) i)) (HR.out.of_block rfl) (fun i _ => ?_)
          rw [nmk_same (fun j hj e => ?_)]
          have := HN j hj e
          obtain rfl : m = j := by omega
          exact k3 ((nxs_iff t f m (by rw [e, nxs_len])).1 e).1
        have HB2 : Hid (∀ n, Below w.heap.size w (wr.drewN n)) := fun n => HB.out.trans ((hdrewN (Below.refl _ _) _).mono HB.out.size)
        rw [decide_eq_false k3] at q1
        generalize strOfNums (t.drop m) = X1 at s1 q1
        generalize strOfNums (t.take m) = X2 at s2 q2
        generalize strOfNums (nxs m []) = X3 at s3 q2
        have d1 : decide (0 ≤ c) = true := decide_eq_true (by omega)
        have d2 : decide (c < (len : Int)) = true := decide_eq_true (by omega)
        clear HN hc1 hc2 hc9 HTK ht hc hm hml hmt e3 HBM HBD HBT k1 k2 k3
        go_wp2
        go_quiet (fail)
        rename_i K _ hK
        refine hK _ _ ?_
        go_wp2
        go_roundw
        case rel => first | exact ⟨k + 1, by go_num, by omega, HR2.out _, HB2.out _⟩ | ((repeat apply Exists.intro); exact ⟨⟨k + 1, by go_num, by omega, HR2.out _, HB2.out _⟩, rfl⟩)
        case measure => simp [intOf]; omega
      by_cases k4 : ¬ t.take m = nxs m []
      · have HR2 : Hid (∀ n, (wr.drewN n).rowIs w1.heap.size 4 (len + 1) (fun i => .bool (nmk len f (zs.take (k + 1)) i))) := fun n => by
          rw [HTK.out]
          refine World.rowIs.congr (f := fun i => .bool (nmk len f (zs.take k) i)) (HR.out.of_block rfl) (fun i _ => ?_)
          rw [nmk_same (fun j hj e => ?_)]
          have := HN j hj e
          obtain rfl : m = j := by omega
          exact k4 ((nxs_iff t f m (by rw [e, nxs_len])).1 e).2
        have HB2 : Hid (∀ n, Below w.heap.size w (wr.drewN n)) := fun n => HB.out.trans ((hdrewN (Below.refl _ _) _).mono HB.out.size)
        rw [decide_eq_true (Classical.not_not.1 k3)] at q1
        rw [decide_eq_false k4] at q2
        generalize strOfNums (t.drop m) = X1 at s1 q1
        generalize strOfNums (t.take m) = X2 at s2 q2
        generalize strOfNums (nxs m []) = X3 at s3 q2
        have d1 : decide (0 ≤ c) = true := decide_eq_true (by omega)
        have d2 : decide (c < (len : Int)) = true := decide_eq_true (by omega)
        clear HN hc1 hc2 hc9 HTK ht hc hm hml hmt e3 HBM HBD HBT k1 k2 k3 k4
        go_wp2
        go_quiet (fail)
        rename_i K _ hK
        refine hK _ _ ?_
        go_wp2
        go_roundw
        case rel => first | exact ⟨k + 1, by go_num, by omega, HR2.out _, HB2.out _⟩ | ((repeat apply Exists.intro); exact ⟨⟨k + 1, by go_num, by omega, HR2.out _, HB2.out _⟩, rfl⟩)
        case measure => simp [intOf]; omega
      have k3' := Classical.not_not.1 k3
      have k4' := Classical.not_not.1 k4
      have hlen2 : t.length = m + f.length := by
        have := congrArg List.length k3'
        rw [List.length_drop] at this
        omega
      have hE : t = nxs m f := (nxs_iff t f m hlen2).2 ⟨k3', k4'⟩
      have HR2 : Hid (∀ n, ((wr.drewN n).setCell ⟨w1.heap.size, m, none⟩ (.bool true)).rowIs w1.heap.size 4 (len + 1) (fun i => .bool (nmk len f (zs.take (k + 1)) i))) := fun n => by
        rw [HTK.out]
        refine (World.rowIs.set (w := wr.drewN n) (HR.out.of_block rfl) m (.bool true)).congr (fun i _ => ?_)
        rw [nmk_more hml hE i]
        split <;> rfl
      have HB2 : Hid (∀ n, Below w.heap.size w ((wr.drewN n).setCell ⟨w1.heap.size, m, none⟩ (.bool true))) := fun n => (HB.out.trans ((hdrewN (Below.refl _ _) _).mono HB.out.size)).setCell (p := ⟨w1.heap.size, m, none⟩) hb1.size _
      rw [decide_eq_true k3'] at q1
      rw [decide_eq_true k4'] at q2
      have g1 : ∀ n, (wr.drewN n).cell? ⟨w1.heap.size, m, none⟩ = some (.bool (nmk len f (zs.take k) m)) := fun n => World.rowIs.cell (w := wr.drewN n) (HR.out.of_block rfl) (i := m) (by omega)
      have g2 : ∀ n, (wr.drewN n).frozen? ⟨w1.heap.size, m, none⟩ = false := fun n => World.rowIs.frozen (w := wr.drewN n) (HR.out.of_block rfl) m
      have g3 : ∀ n, w1.heap.size < (wr.drewN n).heap.size := fun n => HR.out.lt
      have hml2 : m < len + 1 := by omega
      subst hm
      generalize strOfNums (t.drop m) = X1 at s1 q1
      generalize strOfNums (t.take m) = X2 at s2 q2
      generalize strOfNums (nxs m []) = X3 at s3 q2
      have d1 : decide ((0 : Int) ≤ (m : Int)) = true := decide_eq_true (by omega)
      have d2 : decide (m < len) = true := decide_eq_true (by omega)
      clear HN hc1 hc2 hc9 HTK ht hc hmt e3 HBM HBD HBT k1 k2 k3 k4 k3' k4' hlen2 hE
      go_wp2
      go_quiet (fail)
      rename_i K _ hK
      refine hK _ _ ?_
      go_wp2
      go_roundw
      case rel => first | exact ⟨k + 1, by go_num, by omega, HR2.out _, HB2.out _⟩ | ((repeat apply Exists.intro); exact ⟨⟨k + 1, by go_num, by omega, HR2.out _, HB2.out _⟩, rfl⟩)
      case measure => simp [intOf]; omega
    · obtain rfl : k = len := by omega
      rw [List.take_of_length_le (by rw [HL.out]; exact Nat.le_refl _)] at HR
      obtain ⟨K, hK1, hK2, hK3⟩ := least_unmarked (nmk k f zs) k (decide_eq_false (fun h => absurd h.1 (Nat.lt_irrefl _)))
      have QI : Hid _ := pidx_any HR K (by omega) (by omega) hK2 hK3
      have s3 := cut_to ah K (K : Int) rfl (by rw [HAL.out]; omega)
      have e3 : ah.take K = nxs K [] := by rw [HAH.out, nxs_take _ _ (by omega)]
      rw [e3] at s3
      have hsum : ∀ W, (Op.stringOp .add (strOfNums (nxs K [])) (strOfNums f)).run Try.prog W = .ok (.string (strOfNums (nsyn zs k f))) W := fun W => by
        rw [run_add W (nxs K []) f (by rw [nxs_len, HFL.out]; simp; omega), ← nxs_app f K, nsyn_nxs zs K k f (fun j hj => (of_decide_eq_true (hK2 j hj)).2) hK1 ?_]
        by_cases e : K = k
        · exact .inr e
        · exact .inl (fun h => of_decide_eq_false hK3 ⟨by omega, h⟩)
      have HSUM : Hid _ := hsum
      clear hK2 hK3 e3 HR hsum
      obtain ⟨R, HRR⟩ : ∃ R, Hid (R = strOfNums (nsyn zs k f)) := ⟨_, rfl⟩
      have hsum := HSUM.out
      rw [← HRR.out] at hsum
      go_wp2_with fail
      refine Calls.mono QI.out ?_
      rintro e w2 ⟨rfl, rfl⟩
      go_wp2
      go_ret
      exact ⟨by rw [← HRR.out]; rfl, HB.out⟩

end Go.Proofs.Ytmpdgdjjjgnpiaa
