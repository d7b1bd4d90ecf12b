/- PoolEntries, proved where what comes in is of bulk at most 1048576 (the second form): which messages are entries of maps: the program's Entry and the reference's answer alike, for every message; no other condition. -/
import Derived.Test.YtjbppjemilijdaaRows
import Derived.ProofKit
import Derived.OpenShut
import Derived.ShutString
import Derived.ChangeOld
import Derived.Below
import Derived.Test.YtjbppjemilijdaaBunA12
namespace Go.Proofs.Ytjbppjemilijdaa.poolEntries
open Go.ChangeShapes Go.WideShapes Go.ChangeAt Go.RowKit
open Go.ChangeMaps (open_string shut_string)
set_option linter.unusedVariables false

theorem own : ownKnob Try.prog.godebug = none := by kernel_rfl
theorem laidOut : laidOutB Try.prog = true := by kernel_rfl

theorem fam : famT Try.prog [9, 22, 23, 24, 25, 26, 27, 28, 2, 3, 4, 5, 120] = true := by kernel_rfl

theorem mem_bulk {H : Type} : ∀ (l : List (DataW H)) (d : DataW H), d ∈ l → Rows.uptoBulk d ≤ Rows.uptoBulkAll l
  | x :: r, d, h => by
    simp only [Rows.uptoBulkAll]
    rcases List.mem_cons.1 h with rfl | h
    · omega
    · have := mem_bulk r d h
      omega

set_option maxRecDepth 100000 in
theorem msg_arg {H : Type} {enc : TypeId × Value → H} {W : World} {r : Reach} {b0 : Nat} {v : Value} {d : DataW H} {p : List MemPlace} (hv : Value.okWide Try.prog W r b0 30 v)
    (h : DataW.Trod enc Try.prog W 0 (fun _ => true) true 30 v d p) : ∃ nm a1 n1 k1 m1 a2 n2 k2 m2 a3 n3 k3 m3 a4 n4 k4 m4 a5 n5 k5 m5 a6 n6 k6 m6 a7 n7 k7 m7 a8 n8 k8 m8 a9 n9 k9 m9 a10 n10 k10 m10 z9, v = .agg #[.string nm, .slice a1 n1 k1, .slice a2 n2 k2, .slice a3 n3 k3, .slice a4 n4 k4, .slice a5 n5 k5, .slice a6 n6 k6, .slice a7 n7 k7, .slice a8 n8 k8, .slice a9 n9 k9, .slice a10 n10 k10] ∧ MsgOk W nm a1 n1 k1 m1 a2 n2 k2 m2 a3 n3 k3 m3 a4 n4 k4 m4 a5 n5 k5 m5 a6 n6 k6 m6 a7 n7 k7 m7 a8 n8 k8 m8 a9 n9 k9 m9 a10 n10 k10 m10 ∧ Bs W a9 n9 k9 z9 ∧ n9 ≤ Rows.uptoBulk d := by
  obtain ⟨cs, rfl, hsz⟩ := okWide_struct Try.underlying30 hv
  obtain ⟨fuel, hf0⟩ := h
  have hf : DataW.trod enc Try.prog W 0 (fun _ => true) true fuel 30 cs.toList = some (d, p) := by simpa [Value.cells] using hf0
  obtain ⟨xs, n, hfu, hxe, hl, hlen, hfl⟩ := DataW.trod_struct Try.underlying30 hf
  have k_LapiEnum : Try.prog.cellsOf 24 = 1 := by kernel_rfl
  have k_LapiField : Try.prog.cellsOf 22 = 1 := by kernel_rfl
  have k_LapiMessage : Try.prog.cellsOf 23 = 1 := by kernel_rfl
  have k_LapiOneof : Try.prog.cellsOf 26 = 1 := by kernel_rfl
  have k_LapiRange : Try.prog.cellsOf 25 = 1 := by kernel_rfl
  have k_Lstring : Try.prog.cellsOf 27 = 1 := by kernel_rfl
  have k_Luint8 : Try.prog.cellsOf 28 = 1 := by kernel_rfl
  have k_string : Try.prog.cellsOf 9 = 1 := by kernel_rfl
  have hc11 : Try.prog.cellsOf 30 = 11 := by kernel_rfl
  rw [hc11] at hsz
  match xs, hlen with
  | [y0, y1, y2, y3, y4, y5, y6, y7, y8, y9, y10], _ =>
    obtain ⟨c0, c1, c2, c3, c4, c5, c6, c7, c8, c9, c10, hcs⟩ : ∃ c0 c1 c2 c3 c4 c5 c6 c7 c8 c9 c10, cs = #[c0, c1, c2, c3, c4, c5, c6, c7, c8, c9, c10] := by
      obtain ⟨l⟩ := cs
      match l, hsz with
      | [c0, c1, c2, c3, c4, c5, c6, c7, c8, c9, c10], _ => exact ⟨c0, c1, c2, c3, c4, c5, c6, c7, c8, c9, c10, rfl⟩
    subst hcs
    have t0 : DataW.trod enc Try.prog W 0 (fun _ => true) true n 9 [c0] = some y0 := by have h := hfl 0 _ rfl; simpa [k_LapiEnum, k_LapiField, k_LapiMessage, k_LapiOneof, k_LapiRange, k_Lstring, k_Luint8, k_string] using h
    have t1 : DataW.trod enc Try.prog W 0 (fun _ => true) true n 22 [c1] = some y1 := by have h := hfl 1 _ rfl; simpa [k_LapiEnum, k_LapiField, k_LapiMessage, k_LapiOneof, k_LapiRange, k_Lstring, k_Luint8, k_string] using h
    have t2 : DataW.trod enc Try.prog W 0 (fun _ => true) true n 23 [c2] = some y2 := by have h := hfl 2 _ rfl; simpa [k_LapiEnum, k_LapiField, k_LapiMessage, k_LapiOneof, k_LapiRange, k_Lstring, k_Luint8, k_string] using h
    have t3 : DataW.trod enc Try.prog W 0 (fun _ => true) true n 24 [c3] = some y3 := by have h := hfl 3 _ rfl; simpa [k_LapiEnum, k_LapiField, k_LapiMessage, k_LapiOneof, k_LapiRange, k_Lstring, k_Luint8, k_string] using h
    have t4 : DataW.trod enc Try.prog W 0 (fun _ => true) true n 25 [c4] = some y4 := by have h := hfl 4 _ rfl; simpa [k_LapiEnum, k_LapiField, k_LapiMessage, k_LapiOneof, k_LapiRange, k_Lstring, k_Luint8, k_string] using h
    have t5 : DataW.trod enc Try.prog W 0 (fun _ => true) true n 22 [c5] = some y5 := by have h := hfl 5 _ rfl; simpa [k_LapiEnum, k_LapiField, k_LapiMessage, k_LapiOneof, k_LapiRange, k_Lstring, k_Luint8, k_string] using h
    have t6 : DataW.trod enc Try.prog W 0 (fun _ => true) true n 26 [c6] = some y6 := by have h := hfl 6 _ rfl; simpa [k_LapiEnum, k_LapiField, k_LapiMessage, k_LapiOneof, k_LapiRange, k_Lstring, k_Luint8, k_string] using h
    have t7 : DataW.trod enc Try.prog W 0 (fun _ => true) true n 25 [c7] = some y7 := by have h := hfl 7 _ rfl; simpa [k_LapiEnum, k_LapiField, k_LapiMessage, k_LapiOneof, k_LapiRange, k_Lstring, k_Luint8, k_string] using h
    have t8 : DataW.trod enc Try.prog W 0 (fun _ => true) true n 27 [c8] = some y8 := by have h := hfl 8 _ rfl; simpa [k_LapiEnum, k_LapiField, k_LapiMessage, k_LapiOneof, k_LapiRange, k_Lstring, k_Luint8, k_string] using h
    have t9 : DataW.trod enc Try.prog W 0 (fun _ => true) true n 28 [c9] = some y9 := by have h := hfl 9 _ rfl; simpa [k_LapiEnum, k_LapiField, k_LapiMessage, k_LapiOneof, k_LapiRange, k_Lstring, k_Luint8, k_string] using h
    have t10 : DataW.trod enc Try.prog W 0 (fun _ => true) true n 28 [c10] = some y10 := by have h := hfl 10 _ rfl; simpa [k_LapiEnum, k_LapiField, k_LapiMessage, k_LapiOneof, k_LapiRange, k_Lstring, k_Luint8, k_string] using h
    obtain ⟨s0, e0, _, w0⟩ := DataW.trod_string Try.underlying9 t0
    simp at e0
    subst e0
    obtain ⟨x1, rfl, ok1⟩ := ok_open fam n 22 c1 y1 (by decide) t1
    obtain ⟨a1, n1, k1, m1, rfl, _⟩ := ok_ls Try.underlying22 ok1
    obtain ⟨x2, rfl, ok2⟩ := ok_open fam n 23 c2 y2 (by decide) t2
    obtain ⟨a2, n2, k2, m2, rfl, _⟩ := ok_ls Try.underlying23 ok2
    obtain ⟨x3, rfl, ok3⟩ := ok_open fam n 24 c3 y3 (by decide) t3
    obtain ⟨a3, n3, k3, m3, rfl, _⟩ := ok_ls Try.underlying24 ok3
    obtain ⟨x4, rfl, ok4⟩ := ok_open fam n 25 c4 y4 (by decide) t4
    obtain ⟨a4, n4, k4, m4, rfl, _⟩ := ok_ls Try.underlying25 ok4
    obtain ⟨x5, rfl, ok5⟩ := ok_open fam n 22 c5 y5 (by decide) t5
    obtain ⟨a5, n5, k5, m5, rfl, _⟩ := ok_ls Try.underlying22 ok5
    obtain ⟨x6, rfl, ok6⟩ := ok_open fam n 26 c6 y6 (by decide) t6
    obtain ⟨a6, n6, k6, m6, rfl, _⟩ := ok_ls Try.underlying26 ok6
    obtain ⟨x7, rfl, ok7⟩ := ok_open fam n 25 c7 y7 (by decide) t7
    obtain ⟨a7, n7, k7, m7, rfl, _⟩ := ok_ls Try.underlying25 ok7
    obtain ⟨x8, rfl, ok8⟩ := ok_open fam n 27 c8 y8 (by decide) t8
    obtain ⟨a8, n8, k8, m8, rfl, _⟩ := ok_ls Try.underlying27 ok8
    obtain ⟨x9, rfl, ok9⟩ := ok_open fam n 28 c9 y9 (by decide) t9
    obtain ⟨a9, n9, k9, m9, rfl, _⟩ := ok_ls Try.underlying28 ok9
    obtain ⟨x10, rfl, ok10⟩ := ok_open fam n 28 c10 y10 (by decide) t10
    obtain ⟨a10, n10, k10, m10, rfl, _⟩ := ok_ls Try.underlying28 ok10
    obtain ⟨z9, hb9, hu9⟩ := bs_open_upto t9
    refine ⟨s0, a1, n1, k1, m1, a2, n2, k2, m2, a3, n3, k3, m3, a4, n4, k4, m4, a5, n5, k5, m5, a6, n6, k6, m6, a7, n7, k7, m7, a8, n8, k8, m8, a9, n9, k9, m9, a10, n10, k10, m10, z9, rfl, ⟨w0, ok1, ok2, ok3, ok4, ok5, ok6, ok7, ok8, ok9, ok10⟩, hb9, ?_⟩
    have h9 := congrArg Prod.fst hxe
    simp only at h9
    rw [h9]
    have := mem_bulk _ _ (show y9.1 ∈ List.map (fun x => x.1) [y0, y1, y2, y3, y4, y5, y6, y7, y8, y9, y10] by simp)
    simp only [Rows.uptoBulk]
    omega

set_option maxRecDepth 100000 in
theorem contract (H : Type) (enc : TypeId × Value → H) (W : World) (base : Nat) (args : Array Value) (ds gs : List (DataW H)) (before : List MemPlace)
    (hval : ∀ (j : Nat) t v, Try.f3.params[j]? = some t → args[j]? = some v → Value.okWide Try.prog W .any base t v)
    (hW : DataW.Whole enc Try.prog Try.f3.params.toList Rows.poolEntriesSpec.vars false W args.toList ds gs before) (hk : Rows.uptoSmall H (ds ++ gs) = true) :
    Calls Try.prog 3 args W fun e W' => ∃ v, e = .returned v ∧ Rows.poolEntriesSpec.post enc Try.prog Try.f3 false true false false W args v W' := by
  have hW' := hW
  obtain ⟨p, q, hA0, hV, rfl, hfz, hnd⟩ := hW
  have hA : DataW.TrodAll enc Try.prog W 0 (fun _ => true) true Try.f3.params.toList args.toList ds p := hA0
  rw [Try.params3] at hA hval
  obtain ⟨v0, vs0, d0, ds0, p0, q0, hargs, rfl, rfl, h0, r0⟩ := trodAll_cons hA
  obtain ⟨rfl, rfl, rfl⟩ := trodAll_nil r0
  obtain rfl : args = #[v0] := by cases args; simp_all
  obtain ⟨rfl, rfl⟩ := trodVars_none hV
  have lt0 : ∀ x ∈ p0, x.block < W.heap.size := by obtain ⟨m, hm⟩ := h0; exact DataW.trod_lt m _ _ _ hm
  obtain ⟨nm, a1, n1, k1, m1, a2, n2, k2, m2, a3, n3, k3, m3, a4, n4, k4, m4, a5, n5, k5, m5, a6, n6, k6, m6, a7, n7, k7, m7, a8, n8, k8, m8, a9, n9, k9, m9, a10, n10, k10, m10, z9, rfl, hm, hb, hu⟩ := msg_arg (hval 0 30 v0 rfl rfl) h0
  have hbulk : Rows.uptoBulkAll ([d0] ++ []) ≤ 1048576 := of_decide_eq_true hk
  simp only [List.append_nil, Rows.uptoBulkAll] at hbulk
  clear hA0
  refine (pentries_walk _ _ _ _ _ _ _ _ _ _ _ _ _ _ _ _ _ _ _ _ _ _ _ _ _ _ _ _ _ _ _ _ _ _ _ _ _ _ _ _ _ z9 W hm hb (show n9 ≤ 1048576 by omega)).mono fun e W' ⟨he, bel⟩ => ?_
  subst he
  exact ⟨_, rfl, _, _, _, [], _, [], hW', trodAll_mk1 (shut_bool Try.underlying4 _), (trodAll_cons_mk (Below.trod laidOut (by kernel_rfl) (of_decide_eq_true (by kernel_rfl)) h0 bel lt0) trodAll_mk0), rfl, bel.frame _, fun h => by cases h⟩

set_option maxRecDepth 100000 in
theorem lifted (os : Os) (started : os.Started) (H : Type) (enc : TypeId × Value → H) (F : Stop.Interp) :
    ReturnsInHanded {} Try.checked os 3 .any ((Rows.OpenSpec.upto Rows.poolEntriesSpec).pre6 enc Try.prog Try.f3 Rows.poolEntriesUptoRow.domain false) (((Rows.OpenSpec.upto Rows.poolEntriesSpec).at F).post enc Try.prog Try.f3 false true false false) := by
  refine returnsInHanded_of_cond (C := Try.checked) (s := Rows.OpenSpec.upto Rows.poolEntriesSpec) (k := Rows.uptoSmall) rfl own started (by kernel_rfl) Try.func3
    (OpenSpec.witness (enc := enc) (C := Try.checked) (s := Rows.OpenSpec.upto Rows.poolEntriesSpec) (k := Rows.uptoSmall) rfl false ⟨#[], #[.agg #[.string ByteArray.empty, .slice none 0 0, .slice none 0 0, .slice none 0 0, .slice none 0 0, .slice none 0 0, .slice none 0 0, .slice none 0 0, .slice none 0 0, .slice none 0 0, .slice none 0 0]], []⟩ 8 (by kernel_rfl) (by kernel_rfl) (by kernel_rfl)
      (x := ([.agg [.lit (.string []), .nil, .nil, .nil, .nil, .nil, .nil, .nil, .nil, .nil, .nil]], [], [])) (by kernel_rfl) rfl (by kernel_rfl)) ?_
  intro W base args ds gs before hval hW _ hk _
  exact contract H enc W base args ds gs before hval hW hk

theorem over : Rows.PoolEntriesUptoSaid :=
  OpenClaim.holds_of_cond 3 Try.f3 rfl rfl rfl rfl rfl rfl rfl ⟨rfl, rfl, rfl, rfl, rfl⟩ rfl rfl rfl rfl rfl (by kernel_rfl) Try.func3 (by kernel_rfl)
    (of_decide_eq_true (by kernel_rfl)) (by unfold Func.isWrapper; first | (rw [if_pos (by decide +kernel)]; kernel_rfl) | (rw [if_neg (by decide +kernel)]; exact ⟨rfl, rfl⟩))
    (fun os started H enc _ F => lifted os started H enc F)

end Go.Proofs.Ytjbppjemilijdaa.poolEntries
namespace Go.Proofs.Ytjbppjemilijdaa
theorem poolEntriesupto_holds : Rows.PoolEntriesUptoSaid := poolEntries.over
#print axioms poolEntriesupto_holds
end Go.Proofs.Ytjbppjemilijdaa
