/- A map's keys, sorted, by Go's own library: what maps.Keys and slices.Sorted answer here. -/
import Derived.Test.YtnkknkijnpdapaaJBy
import Derived.Test.YtnkknkijnpdapaaJIt
namespace Go.Proofs.Ytnkknkijnpdapaa
open Go.RowKit Go.Maps Go.Sort Go.Shelf
set_option linter.unusedVariables false
set_option linter.unusedSimpArgs false

theorem bytesLess_iff : ∀ (a b : List UInt8), Op.bytesLess a b = true ↔ a < b
  | [], [] => by simp [Op.bytesLess]
  | [], _ :: _ => by simp [Op.bytesLess]
  | _ :: _, [] => by simp [Op.bytesLess]
  | x :: a, y :: b => by
    rw [List.cons_lt_cons_iff, ← bytesLess_iff a b]
    simp [Op.bytesLess]

theorem sorts38 (m : Nat) : AnyZ.SortsIn Try.prog It.sorted_ren Fence.wide m :=
  ⟨fun blk off cap ss W hH hblk hsz => callsIn_wide.2 (AnyM.slices_Sort_string It.sort blk off cap ss W hH hblk hsz), fun p cap W => callsIn_wide.2 (AnyM.slices_Sort_string_none It.sort p cap W)⟩

theorem pkeys_any (mb : Option Nat) (W : World) : Calls Try.prog 39 #[.map mb] W fun e w' => e = .returned (.func (.func 43) #[] #[.pointer (some ⟨W.heap.size, 0, none⟩)]) ∧ w' = W.alloc (.cells #[.map mb] 64) :=
  (callsIn_wide (n := 5)).1 (AnyZ.keys_in It.keys Fence.wide 5 trivial rfl mb W)

/-- How the worths of a set are read: they say nothing. -/
def setR (v : Value) : Option (DataW Unit × List MemPlace) := some (.lit (.bool true), [])

/-- A text out of its bytes. -/
def ofB (b : List UInt8) : ByteArray := ⟨b.toArray⟩

theorem ofB_inj {a b : List UInt8} (h : ofB a = ofB b) : a = b := by
  unfold ofB at h
  have := congrArg (fun x : ByteArray => x.data.toList) h
  simpa using this

theorem ofB_of (k : ByteArray) : ofB k.data.toList = k := by cases k; simp [ofB]

theorem keys_perm {f : MapEntry → Lit × DataW Unit} {es : List MapEntry} {h : MapEntry → List UInt8} (hh : es.map (fun e => strOf (f e).1) = es.map h) : (strKeys (DataW.map ((es.map f).foldr DataW.insert []))).Perm (es.map h) := by
  rw [← hh]
  have := (WideShapes.sorted_perm (es.map f)).map (fun p : Lit × DataW Unit => strOf p.1)
  rw [List.map_map] at this
  exact this

theorem owns_set {W : World} {b n : Nat} {g : ByteArray → Option Value} (h : Mg W b n g) (hn : n ≤ maxLen) :
    ∃ D : DataW Unit, W.ownsMap Try.prog 9 setR b n D ∧ Maps.size D = n ∧ (strKeys D).Nodup ∧ ∀ x : List UInt8, x ∈ strKeys D ↔ (g (ofB x)).isSome = true := by
  obtain ⟨es, clock, hb, hst, hkeys, hs, hg⟩ := h
  have hrd : ∀ x ∈ es.toList, ∃ k : ByteArray, x.key = .string k ∧ WideElems.rd Try.prog 9 setR x = some (.string k.data.toList, .lit (.bool true)) := fun x hx => by
    obtain ⟨k, hk, hks⟩ := hkeys x hx
    exact ⟨k, hk, by simp [WideElems.rd, hk, keyStr hks, setR]⟩
  have hp := WideShapes.sorted_perm (es.toList.map (WideElems.rg Try.prog 9 setR))
  have hmap : es.toList.map (fun e => strOf (WideElems.rg Try.prog 9 setR e).1) = es.toList.map (fun e => strOf (match e.key with | .string k => .string k.data.toList | _ => .bool false)) := by
    refine List.map_congr_left fun e he => ?_
    obtain ⟨k, hk, hr⟩ := hrd e he
    rw [WideElems.rg_of hr, hk]
  have hpk : (strKeys (DataW.map ((es.toList.map (WideElems.rg Try.prog 9 setR)).foldr DataW.insert []))).Perm (es.toList.map (fun e => strOf (match e.key with | .string k => .string k.data.toList | _ => .bool false))) := keys_perm hmap
  obtain ⟨L, hL⟩ : ∃ L, (es.toList.map (WideElems.rg Try.prog 9 setR)).foldr DataW.insert [] = L := ⟨_, rfl⟩
  rw [hL] at hp hpk
  refine ⟨DataW.map L, ⟨es, clock, hb, ⟨by unfold maxLen at hn ⊢; omega, hst, fun x hx => by obtain ⟨k, _, hr⟩ := hrd x hx; exact ⟨_, hr⟩⟩, by omega, by rw [hL]⟩, ?_, ?_, fun x => ?_⟩
  · rw [Maps.size_eq, hp.length_eq, List.length_map]
    simpa using hs
  · rw [hpk.nodup_iff]
    have hpw := ((MapKept.stamped_iff _ _).1 hst).2.2
    refine List.pairwise_map.2 (hpw.imp_of_mem fun {p q} hp' hq' hne e => hne ?_)
    obtain ⟨k1, hk1, _⟩ := hrd p hp'
    obtain ⟨k2, hk2, _⟩ := hrd q hq'
    rw [hk1, hk2] at e ⊢
    simp only [strOf] at e
    have : k1 = k2 := by rw [← ofB_of k1, e, ofB_of k2]
    rw [this]
  · rw [hpk.mem_iff, List.mem_map]
    constructor
    · rintro ⟨e, he, hx⟩
      obtain ⟨k, hk, _⟩ := hrd e he
      rw [hk] at hx
      simp only [strOf] at hx
      subst hx
      rw [ofB_of]
      rw [(hg k e.val).2 ⟨e, he, hk, rfl⟩]
      rfl
    · intro h
      obtain ⟨v, hv⟩ := Option.isSome_iff_exists.1 h
      obtain ⟨e, he, hk, _⟩ := (hg _ _).1 hv
      refine ⟨e, he, ?_⟩
      rw [hk]
      simp [strOf, ofB]

set_option maxHeartbeats 1000000 in
theorem psorted_any {W : World} {b n : Nat} {S : List ByteArray} (hM : Hid (Mg W b n (gset S))) (hn : n ≤ 1000000) :
    Calls Try.prog 38 #[.func (.func 43) #[] #[.pointer (some ⟨W.heap.size, 0, none⟩)]] (W.alloc (.cells #[.map (some b)] 64)) fun e w' => ∃ v zs, e = .returned v ∧ Sw w' (W.heap.size + 1) v zs ∧ Ris zs ∧ (∀ x, x ∈ zs ↔ x ∈ S) ∧ Below (W.heap.size + 1) (W.alloc (.cells #[.map (some b)] 64)) w' := by
  obtain ⟨D, hown, hsz, hnd, hmem⟩ := owns_set hM.out (by unfold maxLen; omega)
  have hbl := hown.lt
  have hseq : SeqGives Fence.wide 2 Try.prog 43 #[.pointer (some ⟨W.heap.size, 0, none⟩)] encStr (fun ss => ss.Perm (strKeys D)) (Maps.size D) (W.alloc (.cells #[.map (some b)] 64)) :=
    AnyZ.keys_gives (ρ := It.keys_ren) { It.keys with } Fence.wide _ trivial rfl (by omega) W.heap.size b n D _ (by simp) (by simp) (by
      obtain ⟨es, clock, hb, Ft, hs, hD⟩ := hown
      exact ⟨es, clock, (Below.heap_alloc _ _ b hbl).trans hb, Ft, hs, hD⟩)
  have cS := AnyZ.sorted_in It.sorted Fence.wide 5 trivial trivial trivial trivial rfl (by omega) (sorts38 _) (enters_of Try.func42 (by kernel_rfl) rfl) 43 #[.pointer (some ⟨W.heap.size, 0, none⟩)] trivial (enters_of Try.func43 (by kernel_rfl) rfl) _ _ (by rw [hsz]; unfold maxLen; omega) (by rw [hsz]; omega) _ hseq
  have cS2 := callsIn_wide.1 cS
  change Calls Try.prog 38 _ _ _ at cS2
  refine cS2.mono ?_
  rintro e w' ⟨v, ss, rfl, hP, hrow, _, hb⟩
  have hsort := List.mergeSort_perm ss (fun x y => decide (x ≤ y))
  have hle : (ss.mergeSort (fun x y => decide (x ≤ y))).length = ss.length := hsort.length_eq
  refine ⟨v, (ss.mergeSort (fun x y => decide (x ≤ y))).map ofB, rfl, ?_, ?_, fun x => ?_, by simpa using hb⟩
  · unfold Sw
    rw [List.length_map, hle, List.map_map]
    have : (Value.string ∘ ofB) = encStr := by funext x; simp [encStr, ofB]
    rw [this]
    have e1 : (W.alloc (.cells #[.map (some b)] 64)).heap.size = W.heap.size + 1 := by simp
    rw [e1] at hrow
    exact hrow
  · have tr : ∀ a b c : List UInt8, decide (a ≤ b) = true → decide (b ≤ c) = true → decide (a ≤ c) = true := fun a b c h1 h2 => by simp only [decide_eq_true_eq] at *; exact List.le_trans h1 h2
    have to : ∀ a b : List UInt8, (decide (a ≤ b) || decide (b ≤ a)) = true := fun a b => by simp only [Bool.or_eq_true, decide_eq_true_eq]; exact List.le_total a b
    have hpw := List.pairwise_mergeSort (le := fun x y => decide (x ≤ y)) tr to ss
    have hnd2 : (ss.mergeSort (fun x y => decide (x ≤ y))).Nodup := (hsort.trans hP).nodup_iff.2 hnd
    refine List.pairwise_map.2 ((hpw.and hnd2).imp fun {x y} h => ?_)
    obtain ⟨h1, h2⟩ := h
    have h3 : slt (ofB y) (ofB x) = false := by
      cases hq : slt (ofB y) (ofB x) with
      | false => rfl
      | true =>
        unfold slt at hq
        rw [bytesLess_iff] at hq
        simp only [decide_eq_true_eq] at h1
        have : (ofB y).toList < (ofB x).toList := hq
        rw [ByteArray.toList_eq, ByteArray.toList_eq] at this
        simp only [ofB] at this
        exact absurd this (List.not_lt.2 h1)
    cases hq : slt (ofB x) (ofB y) with
    | true => rfl
    | false => exact absurd (ofB_inj (slt_tri hq h3)) h2
  · rw [List.mem_map]
    constructor
    · rintro ⟨y, hy, rfl⟩
      have := (hmem y).1 (hP.mem_iff.1 (hsort.mem_iff.1 hy))
      unfold gset at this
      split at this
      · rename_i h; exact (hin_iff _ _).1 h
      · cases this
    · intro hx
      refine ⟨x.data.toList, hsort.mem_iff.2 (hP.mem_iff.2 ((hmem _).2 ?_)), ofB_of x⟩
      rw [ofB_of]
      unfold gset
      rw [if_pos ((hin_iff _ _).2 hx)]
      rfl

end Go.Proofs.Ytnkknkijnpdapaa
