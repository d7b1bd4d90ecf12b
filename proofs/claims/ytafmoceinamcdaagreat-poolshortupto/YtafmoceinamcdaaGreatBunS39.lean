/- Put together by a program out of these texts of mine: VLd, NSi, VLe. -/
import Derived.Shelf.Strings.Search1
import Derived.Test.YtafmoceinamcdaaGreatProg
import Derived.Test.YtafmoceinamcdaaGreatBunS26
import Derived.Test.YtafmoceinamcdaaGreatBunS38

namespace Go.Proofs.YtafmoceinamcdaaGreat
open Go.RowKit
set_option linter.unusedVariables false
set_option linter.unusedSimpArgs false

def strM : Md → ByteArray
  | .str s => s
  | _ => ⟨#[]⟩

def numM : Md → Int
  | .num _ n => n
  | _ => 0

theorem sb_of_ok {w : World} {a : Option Addr} {n c : Nat} {ms : List Md} (h : Ok Tryz.prog w 30 (.ls a n c ms)) : Sb w a n c (ms.map strM) := by
  have hfl : flds Tryz.prog 9 = [9] := flds_ktexts0_any
  cases h with
  | ls hT hnc hm hnil hlen hmem hk =>
    rename_i E
    have hE : E = 9 := by
      have := Tryz.underlying30
      rw [this] at hT
      cases hT
      rfl
    subst hE
    rw [hfl] at hlen hk
    have hstr : ∀ (i : Nat) (m : Md), ms[i]? = some m → ∃ s, m = .str s := fun i m hi => by
      have h1 := hk i m 9 hi (by simp [Nat.mod_one])
      have hu := Tryz.underlying9
      cases h1 with
      | str _ _ => exact ⟨_, rfl⟩
      | num hT _ => rw [hu] at hT; cases hT
      | tru hT => rw [hu] at hT; cases hT
      | ls hT => rw [hu] at hT; cases hT
    refine ⟨by rw [List.length_map, hlen]; simp, by have : c ≤ maxLen := hm; unfold maxLen at this; omega, hnc, hnil, fun hp => ?_⟩
    obtain ⟨b, off, e, hlt, hc⟩ := hmem hp
    refine ⟨b, off, e, hlt, fun i z hi => ?_⟩
    rw [List.getElem?_map] at hi
    cases hq : ms[i]? with
    | none => rw [hq] at hi; cases hi
    | some m =>
      rw [hq] at hi
      obtain ⟨s, rfl⟩ := hstr i m hq
      cases hi
      exact hc i _ hq

theorem flds_int9 : flds Tryz.prog 3 = [3] := by kernel_rfl

theorem ns_of_ok {w : World} {a : Option Addr} {n c : Nat} {ms : List Md} (h : Ok Tryz.prog w 59 (.ls a n c ms)) : Ns w a n c (ms.map numM) := by
  have hfl := flds_int9
  cases h with
  | ls hT hnc hm hnil hlen hmem hk =>
    rename_i E
    have hE : E = 3 := by
      have := Tryz.underlying59
      rw [this] at hT
      cases hT
      rfl
    subst hE
    rw [hfl] at hlen hk
    have hnum : ∀ (i : Nat) (m : Md), ms[i]? = some m → ∃ x, m = .num .i64 x := fun i m hi => by
      have h1 := hk i m 3 hi (by simp [Nat.mod_one])
      exact ok_num2 Tryz.underlying3 h1
    refine ⟨by rw [List.length_map, hlen]; simp, by have : c ≤ maxLen := hm; unfold maxLen at this; omega, fun hp => ?_⟩
    obtain ⟨b, off, e, hlt, hc⟩ := hmem hp
    refine ⟨b, off, e, hlt, fun i z hi => ?_⟩
    rw [List.getElem?_map] at hi
    cases hq : ms[i]? with
    | none => rw [hq] at hi; cases hi
    | some m =>
      rw [hq] at hi
      obtain ⟨x, rfl⟩ := hnum i m hq
      cases hi
      exact hc i _ hq

end Go.Proofs.YtafmoceinamcdaaGreat

namespace Go.Proofs.YtafmoceinamcdaaGreat
open Go.Shelf

def Sh.lays217_ren : Go.Shelf.Ren := ⟨fun | 217 => 170 | 266 => 190 | n => n, fun | 9 => 9 | 5 => 5 | 3 => 3 | n => n, fun | n => n⟩

theorem Sh.lays217 : Go.Proofs.Lays.n217 Tryz.prog Sh.lays217_ren := {
  mixed := by kernel_rfl
  f217 := Tryz.func170.trans (congrArg some (by kernel_rfl))
  f266 := Tryz.func190.trans (congrArg some (by kernel_rfl))
  t3 := Tryz.underlying3
  a3 := Tryz.isAgg3
  z3 := Tryz.sizeOf3
  v3 := Tryz.zeroValue3
  t5 := Tryz.underlying5
  a5 := Tryz.isAgg5
  z5 := Tryz.sizeOf5
  v5 := Tryz.zeroValue5
  t9 := Tryz.underlying9
  a9 := Tryz.isAgg9
  z9 := Tryz.sizeOf9
  v9 := Tryz.zeroValue9 }

open Go.RowKit Go.Lib in
theorem Sh.stringslite_IndexByte (s : ByteArray) (c : Int) (w : World) :
    Calls Tryz.prog 170 #[.string s, .int .u8 c] w fun e w' => e = .returned (.int .i64 (Lib.indexByte s.data.toList c.toNat.toUInt8)) ∧ w' = w := Any.stringslite_IndexByte Sh.lays217 s c w

end Go.Proofs.YtafmoceinamcdaaGreat

namespace Go.Proofs.YtafmoceinamcdaaGreat
open Go.RowKit
set_option linter.unusedVariables false
set_option linter.unusedSimpArgs false

theorem l46 : (⟨#[46]⟩ : ByteArray).toList = [46] := by
  rw [show (⟨#[46]⟩ : ByteArray) = strOfNums [46] from by kernel_rfl, str_list]
  rfl

end Go.Proofs.YtafmoceinamcdaaGreat
