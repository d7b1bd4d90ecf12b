/- Put together by a program out of these texts of mine: VLf0, VLf. -/
import Derived.Laws.EntriesVeiled
import Derived.Test.YtafmoceinamcdaaGreatBunS12
import Derived.Test.YtafmoceinamcdaaGreatBunS16

namespace Go.Proofs.YtafmoceinamcdaaGreat
open Go.RowKit
set_option linter.unusedVariables false
set_option linter.unusedSimpArgs false

theorem layc_all (w0 : World) (H : ByteArray) : ∀ f, LayC w0 H f
  | 0 => qlay w0 H 0 (fun f e => by cases e)
  | f + 1 => qlay w0 H (f + 1) (fun f' e => by cases e; exact layc_all w0 H f)

def A1 (E : TypeId) : Prop := E ≠ 9 ∧ E ≠ 40 ∧ E ≠ 62

theorem own_enumsW {w : World} {lo : Nat} {A : TypeId → Prop} {m : Md} (h : Own Tryz.prog w lo A 35 m) : Own Tryz.prog w lo A1 35 m :=
  h.fam (L := [35, 41, 9, 2, 38, 5]) (by kernel_rfl) (fun T hT E hE => by
    simp only [List.mem_cons, List.not_mem_nil, or_false] at hT
    unfold A1
    rcases hT with rfl | rfl | rfl | rfl | rfl | rfl
    · rw [Tryz.underlying35] at hE; cases hE; decide
    · rw [Tryz.underlying41] at hE; cases hE; decide
    · rw [Tryz.underlying9] at hE; cases hE
    · rw [Tryz.underlying2] at hE; cases hE
    · rw [Tryz.underlying38] at hE; cases hE; decide
    · rw [Tryz.underlying5] at hE; cases hE) (by simp)

theorem own_servsW {w : World} {lo : Nat} {A : TypeId → Prop} {m : Md} (h : Own Tryz.prog w lo A 60 m) : Own Tryz.prog w lo A1 60 m :=
  h.fam (L := [60, 157, 9, 4, 38, 5]) (by kernel_rfl) (fun T hT E hE => by
    simp only [List.mem_cons, List.not_mem_nil, or_false] at hT
    unfold A1
    rcases hT with rfl | rfl | rfl | rfl | rfl | rfl
    · rw [Tryz.underlying60] at hE; cases hE; decide
    · rw [Tryz.underlying157] at hE; cases hE; decide
    · rw [Tryz.underlying9] at hE; cases hE
    · rw [Tryz.underlying4] at hE; cases hE
    · rw [Tryz.underlying38] at hE; cases hE; decide
    · rw [Tryz.underlying5] at hE; cases hE) (by simp)

theorem own_fieldsW {w : World} {lo : Nat} {A : TypeId → Prop} {m : Md} (h : Own Tryz.prog w lo A 33 m) : Own Tryz.prog w lo A1 33 m :=
  h.fam (L := [33, 9, 2, 3, 4, 38, 5]) (by kernel_rfl) (fun T hT E hE => by
    simp only [List.mem_cons, List.not_mem_nil, or_false] at hT
    unfold A1
    rcases hT with rfl | rfl | rfl | rfl | rfl | rfl | rfl
    · rw [Tryz.underlying33] at hE; cases hE; decide
    · rw [Tryz.underlying9] at hE; cases hE
    · rw [Tryz.underlying2] at hE; cases hE
    · rw [Tryz.underlying3] at hE; cases hE
    · rw [Tryz.underlying4] at hE; cases hE
    · rw [Tryz.underlying38] at hE; cases hE; decide
    · rw [Tryz.underlying5] at hE; cases hE) (by simp)

noncomputable def partL (sc : List Int) (m4 : List Md) (n4 : Nat) (m5 : List Md) (n5 : Nat) (m6 : List Md) (n6 : Nat) (m7 : List Md) (n7 : Nat) : List (ByteArray × Int) :=
  msgL 64 sc m4 n4 ++ (enumL sc m5 n5 ++ (servL sc m6 n6 ++ valL sc 6 13 m7 n7))

noncomputable def fileR (H : ByteArray) (h : Sy) (sc : List Int) (l : List (ByteArray × Int)) : Except ByteArray Sy := match pk H (sc.length + 1) h sc with
  | .ok h1 => insl H h1 l
  | .error F => .error F

def Sf (bp bs be : Nat) (vf : Value) (D : Nat → Prop) (b : Nat) : Prop := b = bp ∨ vf.ownBlock = some b ∨ Sp bs be D b

def Kpd (w : World) (lo : Nat) (D : Nat → Prop) (T : TypeId) (m : Md) : Prop := Own Tryz.prog w lo (fun E => E ≠ 96 ∧ E ≠ 62) T m ∧ ∀ b, Blk m b → ¬ D b

theorem Kpd.chg {S : Nat → Prop} {w w' : World} {lo : Nat} {D D' : Nat → Prop} {T : TypeId} {m : Md} (hk : Kpd w lo D T m) (hf : Fx S w w') (hS : ∀ b, S b → b < lo ∨ D b ∨ ∀ cs E, w.heap[b]? = some (.cells cs E (0, 0)) → E = 96 ∨ E = 62) (hd : ∀ b, D' b → D b ∨ w.heap.size ≤ b) : Kpd w' lo D' T m := by
  obtain ⟨ho, hb⟩ := hk
  have ht := ho.typed
  refine ⟨ho.fx hf (fun b hB e => ?_), fun b hB e => ?_⟩
  · obtain ⟨h1, cs, E, hE, hc⟩ := ht b hB
    rcases hS b e with e | e | e
    · omega
    · exact hb b hB e
    · rcases e cs E hc with e | e
      · exact hE.1 e
      · exact hE.2 e
  · obtain ⟨h1, cs, E, hE, hc⟩ := ht b hB
    have := (Array.getElem?_eq_some_iff.1 hc).1
    rcases hd b e with e | e
    · exact hb b hB e
    · omega

theorem Kpd.from {w : World} {lo lo' : Nat} {D : Nat → Prop} {T : TypeId} {m : Md} (hl : lo' ≤ lo) (hk : Kpd w lo D T m) : Kpd w lo' D T m := ⟨hk.1.from hl, hk.2⟩

theorem Kpd.under {w w' : World} {lo : Nat} {D : Nat → Prop} {T : TypeId} {m : Md} (hk : Kpd w lo D T m) (hb : Below w.heap.size w w') : Kpd w' lo D T m := ⟨hk.1.under hb, hk.2⟩

theorem Pw.maps {w : World} {bp bs be : Nat} {vf : Value} {h : Sy} {D : Nat → Prop} {d0 c : Nat} (hp : Pw w bp bs be vf h D d0 c) : (∃ es cl, w.heap[bs]? = some (.map es cl)) ∧ ∃ es cl, w.heap[be]? = some (.map es cl) := by
  obtain ⟨Z, ⟨n, g, h1, _⟩, h2, h3⟩ := hp
  obtain ⟨es, clock, hbs, _⟩ := h1.sym
  obtain ⟨n2, ge, ⟨es2, clock2, hb2, _⟩, _⟩ := h2.map
  exact ⟨⟨_, _, hbs⟩, _, _, hb2⟩

theorem Kpd.go {w w' : World} {lo bp bs be : Nat} {vf : Value} {h : Sy} {D D' : Nat → Prop} {d0 c : Nat} {T : TypeId} {m : Md} (hk : Kpd w lo D T m) (hp : Pw w bp bs be vf h D d0 c) (hf : Fx (Sp bs be D) w w') (hd : ∀ b, D' b → D b ∨ w.heap.size ≤ b) : Kpd w' lo D' T m := by
  obtain ⟨⟨es, cl, h1⟩, es2, cl2, h2⟩ := hp.maps
  refine hk.chg hf (fun b e => ?_) hd
  rcases e with rfl | rfl | e
  · exact .inr (.inr (fun cs E h3 => by rw [h1] at h3; cases h3))
  · exact .inr (.inr (fun cs E h3 => by rw [h2] at h3; cases h3))
  · exact .inr (.inl e)

theorem own_depsK {w : World} {lo : Nat} {A : TypeId → Prop} {m : Md} (h : Own Tryz.prog w lo A 30 m) : Own Tryz.prog w lo (fun E => E ≠ 96 ∧ E ≠ 62) 30 m :=
  h.fam (L := [30, 9]) (by kernel_rfl) (fun T hT E hE => by
    simp only [List.mem_cons, List.not_mem_nil, or_false] at hT
    rcases hT with rfl | rfl
    · rw [Tryz.underlying30] at hE; cases hE; decide
    · rw [Tryz.underlying9] at hE; cases hE) (by simp)

theorem own_pubsK {w : World} {lo : Nat} {A : TypeId → Prop} {m : Md} (h : Own Tryz.prog w lo A 59 m) : Own Tryz.prog w lo (fun E => E ≠ 96 ∧ E ≠ 62) 59 m :=
  h.fam (L := [59, 3]) (by kernel_rfl) (fun T hT E hE => by
    simp only [List.mem_cons, List.not_mem_nil, or_false] at hT
    rcases hT with rfl | rfl
    · rw [Tryz.underlying59] at hE; cases hE; decide
    · rw [Tryz.underlying3] at hE; cases hE) (by simp)

def Cfl (w : World) (lo : Nat) (D : Nat → Prop) (s0 : ByteArray) (n2 : Nat) (m2 : List Md) (n3 : Nat) (m3 : List Md) (us : List Value) : Prop :=
  us.length = 11 ∧ ∃ (s1 s8 : ByteArray) (p2 p3 p4 p5 p6 p7 p9 p10 : Option Addr) (r2 r3 n4 r4 n5 r5 n6 r6 n7 r7 n9 r9 n10 r10 : Nat) (e2 e3 : List Md),
    us = [.string s0, .string s1, .slice p2 n2 r2, .slice p3 n3 r3, .slice p4 n4 r4, .slice p5 n5 r5, .slice p6 n6 r6, .slice p7 n7 r7, .string s8, .slice p9 n9 r9, .slice p10 n10 r10] ∧
    Kpd w lo D 30 (.ls p2 n2 r2 e2) ∧ AlkL m2 e2 ∧ Kpd w lo D 59 (.ls p3 n3 r3 e3) ∧ AlkL m3 e3

theorem Cfl.imp {w w' : World} {lo lo' : Nat} {D D' : Nat → Prop} {s0 : ByteArray} {n2 : Nat} {m2 : List Md} {n3 : Nat} {m3 : List Md} {us : List Value} (h : Cfl w lo D s0 n2 m2 n3 m3 us) (hk : ∀ T m, Kpd w lo D T m → Kpd w' lo' D' T m) : Cfl w' lo' D' s0 n2 m2 n3 m3 us := by
  obtain ⟨h1, s1, s8, p2, p3, p4, p5, p6, p7, p9, p10, r2, r3, n4, r4, n5, r5, n6, r6, n7, r7, n9, r9, n10, r10, e2, e3, h2, h3, h4, h5, h6⟩ := h
  exact ⟨h1, s1, s8, p2, p3, p4, p5, p6, p7, p9, p10, r2, r3, n4, r4, n5, r5, n6, r6, n7, r7, n9, r9, n10, r10, e2, e3, h2, hk _ _ h3, h4, hk _ _ h5, h6⟩

def Fend (W : World) (bp bs be : Nat) (vf : Value) (nf : Nat) (xs : List Value) (s0 : ByteArray) (n2 : Nat) (m2 : List Md) (n3 : Nat) (m3 : List Md) (D : Nat → Prop) (d0 c : Nat) (r : Except ByteArray Sy) (e : Ending) (W' : World) : Prop :=
  Fx (Sf bp bs be vf D) W W' ∧ match r with
  | .ok h' => e = .returned (.tuple #[]) ∧ ∃ vf' D' us, Dg W D D' ∧ Pw W' bp bs be vf' h' D' d0 c ∧ W'.ownsRow 0 62 11 vf' (nf + 1) (xs ++ us) ∧ Cfl W' W.heap.size D' s0 n2 m2 n3 m3 us ∧ (vf'.ownBlock = vf.ownBlock ∨ ∃ b, vf'.ownBlock = some b ∧ W.heap.size ≤ b)
  | .error F => e = .panicked [twi F]

theorem fend_err {W W' : World} {bp bs be : Nat} {vf : Value} {nf : Nat} {xs : List Value} {s0 : ByteArray} {n2 : Nat} {m2 : List Md} {n3 : Nat} {m3 : List Md} {D : Nat → Prop} {d0 c : Nat} {r : Except ByteArray Sy} {F : ByteArray} (hg : Fx (Sp bs be D) W W') (hr : r = .error F) : Fend W bp bs be vf nf xs s0 n2 m2 n3 m3 D d0 c r (.panicked [twi F]) W' := by
  subst hr
  exact ⟨hg.mono (fun b e => .inr (.inr e)), rfl⟩

theorem pk_six (H : ByteArray) {f : Nat} {s : List Int} {h h' : Sy} (e : pk H f h s = .ok h') : ∀ x H0, h x = some (6, H0) → ∃ H', h' x = some (6, H') := fun x H0 hx => ⟨H0, pk_keeps H f s h h' e x _ hx⟩

theorem infoFileW : (Tryz.prog.info? 62).map (fun i => (i.zero, i.size, decide (i.bytes ≤ 1000))) = some (some (.agg #[.string ⟨#[]⟩, .string ⟨#[]⟩, .slice none 0 0, .slice none 0 0, .slice none 0 0, .slice none 0 0, .slice none 0 0, .slice none 0 0, .string ⟨#[]⟩, .slice none 0 0, .slice none 0 0]), 11, true) := by kernel_rfl

theorem run_append_fileW (W : World) (v : Value) (m : Nat) (xs : List Value) (hown : W.ownsRow 0 62 11 v m xs) (hm : m ≤ 1000000000) (a : Nat) (cs : Array Value) (hc : cs.size = 11) (h : Ob W a cs 62) (h1 : ∀ u ∈ cs.toList, u.oneCell' = true) (ty : TypeId) :
    ∃ v' w', (Builtin.append_ #[22, 22] ty #[v, .slice (some ⟨a, 0, none⟩) 1 1]).run Tryz.prog W = .ok v' w' ∧ (∃ ys, ys = xs ++ cs.toList ∧ w'.ownsRow 0 62 11 v' (m + 1) ys) ∧ W.grownBy w' v.ownBlock ∧ (v'.ownBlock = v.ownBlock ∨ v'.ownBlock = some W.heap.size) ∧ ∃ ad n c, v' = .slice ad n c := by
  obtain ⟨i0, hi, z1, z2, z3⟩ : ∃ i, Tryz.prog.info? 62 = some i ∧ i.zero = some (.agg #[.string ⟨#[]⟩, .string ⟨#[]⟩, .slice none 0 0, .slice none 0 0, .slice none 0 0, .slice none 0 0, .slice none 0 0, .slice none 0 0, .string ⟨#[]⟩, .slice none 0 0, .slice none 0 0]) ∧ i.size = 11 ∧ i.bytes ≤ 1000 := by
    have := infoFileW
    cases hq : Tryz.prog.info? 62 with
    | none => rw [hq] at this; cases this
    | some i =>
      rw [hq] at this
      have h := Option.some.inj this
      simp only [Prod.mk.injEq] at h
      exact ⟨i, rfl, h.1, h.2.1, of_decide_eq_true h.2.2⟩
  have hby : (m + 1) * i0.bytes ≤ 140737488355328 := by
    have := Nat.mul_le_mul (show m + 1 ≤ 1000000001 by omega) z3
    omega
  obtain ⟨v', w', hr, ho, hg, _, hl⟩ := run_append_own_at (P := Tryz.prog) W 0 22 ty 62 i0 _ 11 i0.bytes Tryz.underlying22 hi z1 z2 rfl rfl (by omega) v m xs hown ⟨a, 0, none⟩ 1 1 cs.toList (by simpa using hc) (fun j u hj => by
    have := h.cell j (v := u) (by simpa using hj)
    simp only [Addr.add]
    split
    · rename_i h0; rw [h0] at this; exact this
    · simpa using this) h1 (by unfold maxLen; omega) hby (Nat.zero_le _)
  refine ⟨v', w', hr, ⟨_, rfl, ho⟩, hg, hl, ?_⟩
  rcases ho.2 with ⟨h0, _⟩ | ⟨g, cap, cur, h0, _⟩
  · exact ⟨_, _, _, h0⟩
  · exact ⟨_, _, _, h0⟩

theorem Pw.files {w w' : World} {bp bs be : Nat} {vf vf' : Value} {h : Sy} {D : Nat → Prop} {d0 c : Nat} (hp : Pw w bp bs be vf h D d0 c) (hf : Fx (fun b => b = bp) w w') (hb : Ob w' bp #[vf', .map (some bs), .map (some be)] 96) (hs : ∃ a n c, vf' = .slice a n c) : Pw w' bp bs be vf' h D d0 c := by
  have hn := hp.not_row
  obtain ⟨Z, ⟨⟨n, g, hq, hg⟩, he, hz⟩⟩ := hp
  obtain ⟨es, clock, hb2, r⟩ := hq.sym
  refine ⟨Z, ⟨n, g, ⟨hb, ⟨es, clock, (hf.block bs hq.sym.lt (fun e => hq.ne.1 e.symm)).trans hb2, r⟩, hq.ne, hs⟩, hg⟩, he.fx hf (fun b e e2 => hn.2.2 (e2 ▸ e)) (fun e => hq.ne.2.2 e.symm), hz.fx hf (fun b cs e e2 => ?_)⟩
  rw [e2, hq.blk.eq] at e
  cases e

theorem Pw.blk {w : World} {bp bs be : Nat} {vf : Value} {h : Sy} {D : Nat → Prop} {d0 c : Nat} (hp : Pw w bp bs be vf h D d0 c) : Ob w bp #[vf, .map (some bs), .map (some be)] 96 := by
  obtain ⟨Z, hz⟩ := hp
  exact hz.blk

set_option maxRecDepth 100000 in
set_option maxHeartbeats 16000000 in
theorem qlayF (w0 : World) (s0 s1 s8 : ByteArray) (a2 : Option Addr) (n2 k2 : Nat) (m2 : List Md) (a3 : Option Addr) (n3 k3 : Nat) (m3 : List Md) (a4 : Option Addr) (n4 k4 : Nat) (m4 : List Md) (a5 : Option Addr) (n5 k5 : Nat) (m5 : List Md) (a6 : Option Addr) (n6 k6 : Nat) (m6 : List Md) (a7 : Option Addr) (n7 k7 : Nat) (m7 : List Md) (a9 : Option Addr) (n9 k9 : Nat) (m9 : List Md) (a10 : Option Addr) (n10 k10 : Nat) (m10 : List Md)
    (HSRC : Hid (Src w0 30 (.ls a2 n2 k2 m2) ∧ Src w0 59 (.ls a3 n3 k3 m3) ∧ Src w0 34 (.ls a4 n4 k4 m4) ∧ Src w0 35 (.ls a5 n5 k5 m5) ∧ Src w0 60 (.ls a6 n6 k6 m6) ∧ Src w0 33 (.ls a7 n7 k7 m7) ∧ Src w0 38 (.ls a9 n9 k9 m9) ∧ Src w0 38 (.ls a10 n10 k10 m10)))
    (HT : Hid (Nm (.ls a4 n4 k4 m4) ∧ Nm (.ls a5 n5 k5 m5) ∧ Nm (.ls a6 n6 k6 m6) ∧ Nm (.ls a7 n7 k7 m7))) (HZ : Hid (s0.size ≤ 2000000 ∧ s1.size ≤ 2000000 ∧ s8.size ≤ 2000000)) (HOK : Hid (okd 64 n4 m4 = true))
    (W : World) (bp bs be : Nat) (vf : Value) (nf : Nat) (xs : List Value) (h : Sy) (D : Nat → Prop) (d0 cc : Nat) (HB0 : Hid (Below w0.heap.size w0 W)) (HLO : Hid (w0.heap.size ≤ bs ∧ w0.heap.size ≤ be ∧ w0.heap.size ≤ d0 ∧ d0 ≤ W.heap.size))
    (HCC : Hid (cc + (partL (numsOf s1) m4 n4 m5 n5 m6 n6 m7 n7).length ≤ 900000000)) (HNF : Hid (nf ≤ 900000000)) (hP : Hid (Pw W bp bs be vf h D d0 cc)) (hF : Hid (W.ownsRow 0 62 11 vf nf xs)) :
    Calls Tryz.prog 120 #[.pointer (some ⟨bp, 0, none⟩), .agg #[.string s0, .string s1, .slice a2 n2 k2, .slice a3 n3 k3, .slice a4 n4 k4, .slice a5 n5 k5, .slice a6 n6 k6, .slice a7 n7 k7, .string s8, .slice a9 n9 k9, .slice a10 n10 k10]] W fun e W' => Fend W bp bs be vf nf xs s0 n2 m2 n3 m3 D d0 (cc + (partL (numsOf s1) m4 n4 m5 n5 m6 n6 m7 n7).length) (fileR s0 h (numsOf s1) (partL (numsOf s1) m4 n4 m5 n5 m6 n6 m7 n7)) e W' := by
  have HP : Hid (Pw W bp bs be vf h D d0 cc) := hP
  have HF0 : Hid (W.ownsRow 0 62 11 vf nf xs) := hF
  have HSB : Hid (byts (numsOf s1) ∧ (numsOf s1).length ≤ 2000000) := ⟨numsOf_byts s1, by rw [numsOf_len]; exact HZ.out.2.1⟩
  obtain ⟨w1, hw1⟩ : ∃ w1, w1 = W.alloc (.cells #[.string s0, .string s1, .slice a2 n2 k2, .slice a3 n3 k3, .slice a4 n4 k4, .slice a5 n5 k5, .slice a6 n6 k6, .slice a7 n7 k7, .string s8, .slice a9 n9 k9, .slice a10 n10 k10] 62) := ⟨_, rfl⟩
  have hb1 : Below W.heap.size W w1 := by rw [hw1]; exact (Below.refl _ _).alloc (Nat.le_refl _) _
  have f1 : Ob w1 W.heap.size #[.string s0, .string s1, .slice a2 n2 k2, .slice a3 n3 k3, .slice a4 n4 k4, .slice a5 n5 k5, .slice a6 n6 k6, .slice a7 n7 k7, .string s8, .slice a9 n9 k9, .slice a10 n10 k10] 62 := by rw [hw1]; exact Ob.new _ _ _
  have L1 : Hid (Lq W w1 bp bs be vf h D D d0 cc) := ⟨Fx.of_below hb1, Dg.refl _ _, HP.out.below hb1 (Nat.le_refl _)⟩
  have HB1 : Hid (Below w0.heap.size w0 w1) := HP.out.kept HB0.out HLO.out.1 HLO.out.2.1 HLO.out.2.2.1 L1.out.fx
  have QF : Hid _ := kfile_any (fun _ => True) (fun _ _ => trivial) s0 s1 a2 n2 k2 m2 a3 n3 k3 m3 a4 n4 k4 a5 n5 k5 m5 a6 n6 k6 m6 a7 n7 k7 m7 s8 a9 n9 k9 m9 a10 n10 k10 m10 w1 (show Hid _ from HSRC.out.1.under' HB1.out) (show Hid _ from HSRC.out.2.1.under' HB1.out) (show Hid _ from HSRC.out.2.2.2.1.under' HB1.out) (show Hid _ from HSRC.out.2.2.2.2.1.under' HB1.out) (show Hid _ from HSRC.out.2.2.2.2.2.1.under' HB1.out) (show Hid _ from HSRC.out.2.2.2.2.2.2.1.under' HB1.out) (show Hid _ from HSRC.out.2.2.2.2.2.2.2.under' HB1.out) (show Hid _ from (by have := HZ.out.1; show _ ≤ _; omega)) (show Hid _ from (by have := HZ.out.2.1; show _ ≤ _; omega)) (show Hid _ from (by have := HZ.out.2.2; show _ ≤ _; omega))
  obtain ⟨⟨c0, c1, c2, c3, c4, c5, c6, c7, c8, c9, c10⟩, _, cl⟩ := ob11 f1
  have F1 : Hid _ := f1
  have HW1 : Hid _ := hw1
  clear hb1 f1 hw1 hP hF HB1
  go_enter Tryz.func120, Tryz.ntmps120
  go_upto_region 1 with fail
  rw [← HW1.out]
  clear HW1
  go_wp2_with fail
  refine Calls.mono QF.out ?_
  rintro e w2 ⟨p2, r2, p3, r3, p5, r5, p6, r6, p7, r7, p9, r9, p10, r10, rfl, hcp, hb2⟩
  obtain ⟨e2, he2, ha2, _⟩ := cpyl_ls hcp (j := 2) rfl rfl rfl
  obtain ⟨e3, he3, ha3, _⟩ := cpyl_ls hcp (j := 3) rfl rfl rfl
  have HAK2 : Hid (AlkL m2 e2 ∧ AlkL m3 e3) := ⟨ha2, ha3⟩
  obtain ⟨e5, he5, ha5, _⟩ := cpyl_ls hcp (j := 5) rfl rfl rfl
  obtain ⟨e6, he6, ha6, _⟩ := cpyl_ls hcp (j := 6) rfl rfl rfl
  obtain ⟨e7, he7, ha7, _⟩ := cpyl_ls hcp (j := 7) rfl rfl rfl
  have HAK : Hid (AlkL m5 e5 ∧ AlkL m6 e6 ∧ AlkL m7 e7) := ⟨ha5, ha6, ha7⟩
  have HNM : Hid (Nm (.ls p5 n5 r5 e5) ∧ Nm (.ls p6 n6 r6 e6) ∧ Nm (.ls p7 n7 r7 e7)) := ⟨Alk.nm (.ls ha5.1 ha5.2) HT.out.2.1, Alk.nm (.ls ha6.1 ha6.2) HT.out.2.2.1, Alk.nm (.ls ha7.1 ha7.2) HT.out.2.2.2⟩
  have L2 : Hid _ := L1.out.below hb2
  have PW2 : Hid (Pw w2 bp bs be vf h D d0 cc) := L2.out.pw
  have hnD : ∀ b, w1.heap.size ≤ b → ¬ D b := fun b hb e => by
    obtain ⟨Z0, hz0⟩ := HP.out
    obtain ⟨_, cs, hc⟩ := hz0.ex.low b e
    have h1 := (Array.getElem?_eq_some_iff.1 hc).1
    have h2 := L1.out.fx.size
    omega
  have K2 : Hid (Kpd w2 W.heap.size D 30 (.ls p2 n2 r2 e2) ∧ Kpd w2 W.heap.size D 59 (.ls p3 n3 r3 e3)) := ⟨⟨(own_depsK he2).from L1.out.fx.size, fun b hb => hnD b (he2.typed b hb).1⟩, ⟨(own_pubsK he3).from L1.out.fx.size, fun b hb => hnD b (he3.typed b hb).1⟩⟩
  have M2 : Hid (Lq w2 w2 bp bs be vf h D D d0 cc) := ⟨Fx.refl _ _, Dg.refl _ _, L2.out.pw⟩
  have F2 : Hid _ := F1.out.below hb2 F1.out.lt
  obtain ⟨w3, hw3⟩ : ∃ w3, w3 = ((w2.alloc (.cells #[.string s0, .string s1, .slice p2 n2 r2, .slice p3 n3 r3, .slice none 0 0, .slice p5 n5 r5, .slice p6 n6 r6, .slice p7 n7 r7, .string s8, .slice p9 n9 r9, .slice p10 n10 r10] 62)).alloc (.cells #[.int .i64 1, .bool false] 100)).alloc (.cells #[.pointer (some ⟨bp, 0, none⟩), .string s0] 204) := ⟨_, rfl⟩
  have hb3 : Below w2.heap.size w2 w3 := by rw [hw3]; exact (((Below.refl _ _).alloc (Nat.le_refl _) _).alloc (by simp) _).alloc (by simp; omega) _
  have o3 : Ob w3 w2.heap.size #[.string s0, .string s1, .slice p2 n2 r2, .slice p3 n3 r3, .slice none 0 0, .slice p5 n5 r5, .slice p6 n6 r6, .slice p7 n7 r7, .string s8, .slice p9 n9 r9, .slice p10 n10 r10] 62 := by rw [hw3]; exact ((Ob.new _ _ _).alloc _).alloc _
  have a3' : Ob w3 (w2.heap.size + 1) #[.int .i64 1, .bool false] 100 := by
    rw [hw3]
    have := (Ob.new (w2.alloc (.cells #[.string s0, .string s1, .slice p2 n2 r2, .slice p3 n3 r3, .slice none 0 0, .slice p5 n5 r5, .slice p6 n6 r6, .slice p7 n7 r7, .string s8, .slice p9 n9 r9, .slice p10 n10 r10] 62)) #[.int .i64 1, .bool false] 100).alloc (.cells #[.pointer (some ⟨bp, 0, none⟩), .string s0] 204)
    simpa using this
  have h3' : Ob w3 (w2.heap.size + 1 + 1) #[.pointer (some ⟨bp, 0, none⟩), .string s0] 204 := by
    rw [hw3]
    have := Ob.new ((w2.alloc (.cells #[.string s0, .string s1, .slice p2 n2 r2, .slice p3 n3 r3, .slice none 0 0, .slice p5 n5 r5, .slice p6 n6 r6, .slice p7 n7 r7, .string s8, .slice p9 n9 r9, .slice p10 n10 r10] 62)).alloc (.cells #[.int .i64 1, .bool false] 100)) #[.pointer (some ⟨bp, 0, none⟩), .string s0] 204
    simpa using this
  have L3 : Hid _ := L2.out.below hb3
  have M3 : Hid _ := M2.out.below hb3
  have F3 : Hid _ := F2.out.below hb3 F2.out.lt
  have E3 : Hid (Own Tryz.prog w3 w1.heap.size A1 35 (.ls p5 n5 r5 e5) ∧ Own Tryz.prog w3 w1.heap.size A1 60 (.ls p6 n6 r6 e6) ∧ Own Tryz.prog w3 w1.heap.size A1 33 (.ls p7 n7 r7 e7)) := ⟨(own_enumsW he5).under hb3, (own_servsW he6).under hb3, (own_fieldsW he7).under hb3⟩
  obtain ⟨Z3, hz3⟩ := L3.out.pw
  have HZ3 : Hid _ := hz3
  have QK : Hid _ := qpackages s0 (numsOf s1) (show Hid _ from HSB.out.1) (show Hid _ from (by have := HSB.out.2; show _ ≤ _; omega)) w3 (show Hid _ from hz3.px)
  rw [numsOf_str] at QK
  obtain ⟨⟨x0, x1⟩, _, xl⟩ := ob2 h3'
  have y1 : w3.cell? ⟨w2.heap.size, 1, none⟩ = some (.string s1) := o3.cell 1 rfl
  have yl := o3.lt
  have O3 : Hid _ := o3
  have A3 : Hid _ := a3'
  have H3 : Hid _ := h3'
  have HW3 : Hid _ := hw3
  have HS2 : Hid (W.heap.size < w2.heap.size) := Nat.lt_of_lt_of_le F1.out.lt hb2.size
  clear hb2 hb3 o3 a3' h3' hw3 hz3 hnD L1 L2 M2 F1 F2 hcp he2 he3 ha2 ha3 he5 he6 he7 ha5 ha6 ha7 QF c0 c1 c2 c3 c4 c5 c6 c7 c8 c9 c10 cl
  go_upto_region 4 with fail
  rw [← HW3.out]
  clear HW3
  go_wp2_with fail
  refine Calls.mono QK.out ?_
  rintro e w4 hx4
  obtain ⟨hg4, ⟨h1', hr4, rfl, hp4⟩ | ⟨F', hr4, rfl⟩⟩ := pend_cases hx4
  · have HR4 : Hid _ := hr4
    have L4 : Hid _ := L3.out.put HZ3.out hg4 (pk_six s0 hr4) hp4
    have M4 : Hid _ := M3.out.put HZ3.out hg4 (pk_six s0 hr4) hp4
    have hf4 : Fx (Sp bs be D) w3 w4 := .of_grown hg4 (.inl rfl)
    have o4 : Ob w4 w2.heap.size #[.string s0, .string s1, .slice p2 n2 r2, .slice p3 n3 r3, .slice none 0 0, .slice p5 n5 r5, .slice p6 n6 r6, .slice p7 n7 r7, .string s8, .slice p9 n9 r9, .slice p10 n10 r10] 62 := hf4.ob O3.out (L3.out.pw.other O3.out.eq (by decide))
    have a4' : Ob w4 (w2.heap.size + 1) #[.int .i64 1, .bool false] 100 := hf4.ob A3.out (L3.out.pw.other A3.out.eq (by decide))
    have h4' : Ob w4 (w2.heap.size + 1 + 1) #[.pointer (some ⟨bp, 0, none⟩), .string s0] 204 := hf4.ob H3.out (L3.out.pw.other H3.out.eq (by decide))
    have f4 : Ob w4 W.heap.size #[.string s0, .string s1, .slice a2 n2 k2, .slice a3 n3 k3, .slice a4 n4 k4, .slice a5 n5 k5, .slice a6 n6 k6, .slice a7 n7 k7, .string s8, .slice a9 n9 k9, .slice a10 n10 k10] 62 := hf4.ob F3.out (L3.out.pw.other F3.out.eq (by decide))
    have e4 : Own Tryz.prog w4 w1.heap.size A1 35 (.ls p5 n5 r5 e5) ∧ Own Tryz.prog w4 w1.heap.size A1 60 (.ls p6 n6 r6 e6) ∧ Own Tryz.prog w4 w1.heap.size A1 33 (.ls p7 n7 r7 e7) := ⟨hf4.own L3.out.pw (fun _ e => e) (fun _ e => e.1) E3.out.1, hf4.own L3.out.pw (fun _ e => e) (fun _ e => e.1) E3.out.2.1, hf4.own L3.out.pw (fun _ e => e) (fun _ e => e.1) E3.out.2.2⟩
    obtain ⟨w6, hw6⟩ : ∃ w6, w6 = w4.alloc (.cells #[layQ (w2.heap.size + 1 + 1) (w2.heap.size + 1) w4.heap.size] 206) := ⟨_, rfl⟩
    have hb6 : Below w4.heap.size w4 w6 := by rw [hw6]; exact (Below.refl _ _).alloc (Nat.le_refl _) _
    have q6 : Ob w6 w4.heap.size #[layQ (w2.heap.size + 1 + 1) (w2.heap.size + 1) w4.heap.size] 206 := by rw [hw6]; exact Ob.new _ _ _
    have o6 := o4.below hb6 o4.lt
    have a6' := a4'.below hb6 a4'.lt
    have h6' := h4'.below hb6 h4'.lt
    have f6 := f4.below hb6 f4.lt
    have L6 : Hid _ := L4.out.below hb6
    have M6 : Hid _ := M4.out.below hb6
    have E6 : Hid (Own Tryz.prog w6 w1.heap.size A1 35 (.ls p5 n5 r5 e5) ∧ Own Tryz.prog w6 w1.heap.size A1 60 (.ls p6 n6 r6 e6) ∧ Own Tryz.prog w6 w1.heap.size A1 33 (.ls p7 n7 r7 e7)) := ⟨e4.1.under hb6, e4.2.1.under hb6, e4.2.2.under hb6⟩
    have HB6 : Hid (Below w0.heap.size w0 w6) := HP.out.kept HB0.out HLO.out.1 HLO.out.2.1 HLO.out.2.2.1 L6.out.fx
    have HPL : Hid ((partL (numsOf s1) m4 n4 m5 n5 m6 n6 m7 n7).length = (msgL 64 (numsOf s1) m4 n4).length + ((enumL (numsOf s1) m5 n5).length + ((servL (numsOf s1) m6 n6).length + n7))) := by
      show _ = _
      unfold partL
      rw [List.length_append, List.length_append, List.length_append, valL_len]
    have QL : Hid _ := layc_all w0 s0 64 (numsOf s1) a4 n4 k4 m4 w6 (w2.heap.size + 1 + 1) (w2.heap.size + 1) w4.heap.size bp bs be vf h1' D d0 cc HSB.out.1 (by have := HSB.out.2; omega) HSRC.out.2.2.1 HT.out.1 HOK.out HB6.out HLO.out.1 HLO.out.2.1 HLO.out.2.2.1 (Nat.le_trans HLO.out.2.2.2 L6.out.fx.size) h6' a6' q6 (by have h1 := HCC.out; have h2 := HPL.out; omega) L6.out.pw
    rw [numsOf_str] at QL
    have e5' : (w4.alloc (.cells #[.nilFunc] 206)).heap[w4.heap.size]? = some (.cells #[.nilFunc] 206 (0, 0)) := heap_alloc_new _ _
    obtain ⟨r1', r2', r3'⟩ := ob1 (Ob.mk e5')
    obtain ⟨q1', _, ql'⟩ := ob1 q6
    have t1 : w6.cell? ⟨w2.heap.size, 1, none⟩ = some (.string s1) := o6.cell 1 rfl
    have tl := o6.lt
    have u4 : w6.cell? ⟨W.heap.size, 4, none⟩ = some (.slice a4 n4 k4) := f6.cell 4 rfl
    have ul := f6.lt
    have hmf : ∀ (fn : Fn) (first cap : Array Value) (w : World), (Instr.makeFunc fn first cap).run Tryz.prog w = .ok (.func fn first cap) w := fun _ _ _ _ => rfl
    unfold layQ at q1' hw6
    have O6 : Hid _ := o6
    have H6 : Hid _ := h6'
    have HW6 : Hid _ := hw6
    clear hx4 hg4 hr4 hp4 hf4 o4 a4' h4' f4 e4 hw6 hb6 q6 o6 a6' h6' f6 e5' HB6 HZ3 QK L3 L4 M3 M4 F3 E3 O3 A3 H3 x0 x1 xl y1 yl
    go_upto_region 7 with fail
    rw [← HW6.out]
    clear HW6 r1' r2' r3'
    go_wp2_with fail
    refine Calls.mono QL.out ?_
    rintro e w7 hx7
    obtain ⟨hf7, ⟨h2', hr7, rfl, D', hd7, hp7⟩ | ⟨F', hr7, rfl⟩⟩ := xend_cases hx7
    · have HR7 : Hid _ := hr7
      have L7 : Hid _ := L6.out.step hf7 hd7 hp7
      have M7 : Hid _ := M6.out.step hf7 hd7 hp7
      have hpw6 := L6.out.pw
      have o7 : Ob w7 w2.heap.size #[.string s0, .string s1, .slice p2 n2 r2, .slice p3 n3 r3, .slice none 0 0, .slice p5 n5 r5, .slice p6 n6 r6, .slice p7 n7 r7, .string s8, .slice p9 n9 r9, .slice p10 n10 r10] 62 := hf7.ob O6.out (hpw6.other O6.out.eq (by decide))
      have h7 : Ob w7 (w2.heap.size + 1 + 1) #[.pointer (some ⟨bp, 0, none⟩), .string s0] 204 := hf7.ob H6.out (hpw6.other H6.out.eq (by decide))
      have e7' : Own Tryz.prog w7 w1.heap.size A1 35 (.ls p5 n5 r5 e5) ∧ Own Tryz.prog w7 w1.heap.size A1 60 (.ls p6 n6 r6 e6) ∧ Own Tryz.prog w7 w1.heap.size A1 33 (.ls p7 n7 r7 e7) := ⟨hf7.own hpw6 (fun _ e => e) (fun _ e => e.1) E6.out.1, hf7.own hpw6 (fun _ e => e) (fun _ e => e.1) E6.out.2.1, hf7.own hpw6 (fun _ e => e) (fun _ e => e.1) E6.out.2.2⟩
      obtain ⟨w8, hw8⟩ : ∃ w8, w8 = w7.setCell ⟨w2.heap.size, 4, none⟩ (.slice (some ⟨w6.heap.size, 0, none⟩) n4 n4) := ⟨_, rfl⟩
      have fx8 : Fx (fun b => b = w2.heap.size) w7 w8 := by rw [hw8]; exact fx1 _ _ _ _
      have hs2 := HS2.out
      have o8 : Ob w8 w2.heap.size #[.string s0, .string s1, .slice p2 n2 r2, .slice p3 n3 r3, .slice (some ⟨w6.heap.size, 0, none⟩) n4 n4, .slice p5 n5 r5, .slice p6 n6 r6, .slice p7 n7 r7, .string s8, .slice p9 n9 r9, .slice p10 n10 r10] 62 := by rw [hw8]; have := o7.set 4 (.slice (some ⟨w6.heap.size, 0, none⟩) n4 n4); simpa using this
      have h8 : Ob w8 (w2.heap.size + 1 + 1) #[.pointer (some ⟨bp, 0, none⟩), .string s0] 204 := fx8.ob h7 (by omega)
      have L8 : Hid _ := L7.out.set (K := w2.heap.size) (by omega) fx8 o7 (by decide) (by decide) (by decide)
      have M8 : Hid _ := M7.out.set (K := w2.heap.size) (Nat.le_refl _) fx8 o7 (by decide) (by decide) (by decide)
      have hA8 : ∀ b cs E, b = w2.heap.size → w7.heap[b]? = some (.cells cs E (0, 0)) → ¬ A1 E := fun b cs' E x1 x2 x3 => by
        subst x1
        rw [o7.eq] at x2
        cases x2
        exact x3.2.2 rfl
      have E8 : Hid (Own Tryz.prog w8 w1.heap.size A1 35 (.ls p5 n5 r5 e5) ∧ Own Tryz.prog w8 w1.heap.size A1 60 (.ls p6 n6 r6 e6) ∧ Own Tryz.prog w8 w1.heap.size A1 33 (.ls p7 n7 r7 e7)) := ⟨e7'.1.fxT fx8 hA8, e7'.2.1.fxT fx8 hA8, e7'.2.2.fxT fx8 hA8⟩
      have v1 : w7.cell? ⟨w2.heap.size, 4, none⟩ = some (.slice none 0 0) := o7.cell 4 rfl
      have v2 : w7.frozen? ⟨w2.heap.size, 4, none⟩ = false := o7.frozen 4
      have v3 : w2.heap.size < w7.heap.size := o7.lt
      obtain ⟨⟨x0, x1⟩, _, xl⟩ := ob2 h8
      have y1 : w8.cell? ⟨w2.heap.size, 1, none⟩ = some (.string s1) := o8.cell 1 rfl
      have y2 : w8.cell? ⟨w2.heap.size, 5, none⟩ = some (.slice p5 n5 r5) := o8.cell 5 rfl
      have yl := o8.lt
      obtain ⟨Z8, hz8⟩ := L8.out.pw
      have HZ8 : Hid _ := hz8
      have Q8 : Hid _ := qenums s0 (numsOf s1) (show Hid _ from HSB.out.1) (show Hid _ from (by have := HSB.out.2; show _ ≤ _; omega)) p5 n5 r5 e5 w1.heap.size A1 w8 (show Hid _ from E8.out.1) (show Hid _ from HNM.out.1) (show Hid _ from hz8.px)
      rw [numsOf_str, enumL_alk HAK.out.1] at Q8
      have O8 : Hid _ := o8
      have H8 : Hid _ := h8
      have HW8 : Hid _ := hw8
      clear hx7 hf7 hr7 hd7 hp7 hpw6 o7 h7 e7' fx8 hs2 o8 h8 hA8 hw8 hz8 QL q1' ql' t1 tl u4 ul O6 H6 E6 L6 L7 M6 M7
      go_upto_region 8 with fail
      rw [← HW8.out]
      clear HW8 v1 v2 v3
      go_wp2_with fail
      refine Calls.mono Q8.out ?_
      rintro e w9 hx9
      obtain ⟨hg9, ⟨h3', hr9, rfl, hp9⟩ | ⟨F', hr9, rfl⟩⟩ := pend_cases hx9
      · have HR9 : Hid _ := hr9
        have L9 : Hid _ := L8.out.put HZ8.out hg9 (insl_six s0 hr9) hp9
        have M9 : Hid _ := M8.out.put HZ8.out hg9 (insl_six s0 hr9) hp9
        have hf9 : Fx (Sp bs be D') w8 w9 := .of_grown hg9 (.inl rfl)
        have O9 : Hid (Ob w9 w2.heap.size #[.string s0, .string s1, .slice p2 n2 r2, .slice p3 n3 r3, .slice (some ⟨w6.heap.size, 0, none⟩) n4 n4, .slice p5 n5 r5, .slice p6 n6 r6, .slice p7 n7 r7, .string s8, .slice p9 n9 r9, .slice p10 n10 r10] 62) := hf9.ob O8.out (L8.out.pw.other O8.out.eq (by decide))
        have H9 : Hid (Ob w9 (w2.heap.size + 1 + 1) #[.pointer (some ⟨bp, 0, none⟩), .string s0] 204) := hf9.ob H8.out (L8.out.pw.other H8.out.eq (by decide))
        have E9 : Hid (Own Tryz.prog w9 w1.heap.size A1 60 (.ls p6 n6 r6 e6) ∧ Own Tryz.prog w9 w1.heap.size A1 33 (.ls p7 n7 r7 e7)) := ⟨hf9.own L8.out.pw (fun _ e => e) (fun _ e => e.1) E8.out.2.1, hf9.own L8.out.pw (fun _ e => e) (fun _ e => e.1) E8.out.2.2⟩
        clear x0 x1 xl y1 y2 yl
        obtain ⟨⟨x0, x1⟩, _, xl⟩ := ob2 H9.out
        have y1 : w9.cell? ⟨w2.heap.size, 1, none⟩ = some (.string s1) := O9.out.cell 1 rfl
        have y2 : w9.cell? ⟨w2.heap.size, 6, none⟩ = some (.slice p6 n6 r6) := O9.out.cell 6 rfl
        have yl := O9.out.lt
        obtain ⟨Z9, hz9⟩ := L9.out.pw
        have HZ9 : Hid _ := hz9
        have Q9 : Hid _ := qservices s0 (numsOf s1) (show Hid _ from HSB.out.1) (show Hid _ from (by have := HSB.out.2; show _ ≤ _; omega)) p6 n6 r6 e6 w1.heap.size A1 w9 (show Hid _ from E9.out.1) (show Hid _ from HNM.out.2.1) (show Hid _ from hz9.px)
        rw [numsOf_str, servL_alk HAK.out.2.1] at Q9
        clear hx9 hg9 hr9 hp9 hf9 hz9 Q8 L8 M8 O8 H8 E8 HZ8
        go_wp2_with fail
        refine Calls.mono Q9.out ?_
        rintro e w10 hx10
        obtain ⟨hg10, ⟨h4', hr10, rfl, hp10⟩ | ⟨F', hr10, rfl⟩⟩ := pend_cases hx10
        · have HR10 : Hid _ := hr10
          have L10 : Hid _ := L9.out.put HZ9.out hg10 (insl_six s0 hr10) hp10
          have M10 : Hid _ := M9.out.put HZ9.out hg10 (insl_six s0 hr10) hp10
          have hf10 : Fx (Sp bs be D') w9 w10 := .of_grown hg10 (.inl rfl)
          have O10 : Hid (Ob w10 w2.heap.size #[.string s0, .string s1, .slice p2 n2 r2, .slice p3 n3 r3, .slice (some ⟨w6.heap.size, 0, none⟩) n4 n4, .slice p5 n5 r5, .slice p6 n6 r6, .slice p7 n7 r7, .string s8, .slice p9 n9 r9, .slice p10 n10 r10] 62) := hf10.ob O9.out (L9.out.pw.other O9.out.eq (by decide))
          have H10 : Hid (Ob w10 (w2.heap.size + 1 + 1) #[.pointer (some ⟨bp, 0, none⟩), .string s0] 204) := hf10.ob H9.out (L9.out.pw.other H9.out.eq (by decide))
          have E10 : Hid (Own Tryz.prog w10 w1.heap.size A1 33 (.ls p7 n7 r7 e7)) := hf10.own L9.out.pw (fun _ e => e) (fun _ e => e.1) E9.out.2
          clear x0 x1 xl y1 y2 yl
          obtain ⟨⟨x0, x1⟩, _, xl⟩ := ob2 H10.out
          have y1 : w10.cell? ⟨w2.heap.size, 1, none⟩ = some (.string s1) := O10.out.cell 1 rfl
          have y2 : w10.cell? ⟨w2.heap.size, 7, none⟩ = some (.slice p7 n7 r7) := O10.out.cell 7 rfl
          have yl := O10.out.lt
          have Q10 : Hid _ := qextends s0 (numsOf s1) (show Hid _ from HSB.out.1) (show Hid _ from (by have := HSB.out.2; show _ ≤ _; omega)) p7 n7 r7 e7 w1.heap.size A1 (show Hid _ from fun _ e => e.1) w10 (show Hid _ from E10.out) (show Hid _ from HNM.out.2.2) (show Hid _ from (by have h1 := HCC.out; have h2 := HPL.out; show _ ≤ _; omega)) (show Hid _ from Nat.le_trans HLO.out.2.2.2 L10.out.fx.size) (show Hid _ from L10.out.pw)
          rw [numsOf_str, valL_alk HAK.out.2.2] at Q10
          clear hx10 hg10 hr10 hp10 hf10 Q9 L9 M9 O9 H9 E9 HZ9
          go_wp2_with fail
          refine Calls.mono Q10.out ?_
          rintro e w11 hx11
          obtain ⟨hf11, ⟨h5', hr11, rfl, D2, hd11, hp11⟩ | ⟨F', hr11, rfl⟩⟩ := xend_cases hx11
          · have HR11 : Hid (fileR s0 h (numsOf s1) (partL (numsOf s1) m4 n4 m5 n5 m6 n6 m7 n7) = .ok h5') := by
              show _ = _
              unfold fileR partL
              rw [HR4.out]
              show insl s0 h1' _ = _
              rw [insl_ok_left HR7.out, insl_ok_left HR9.out, insl_ok_left HR10.out]
              exact hr11
            have L11 : Hid _ := L10.out.step hf11 hd11 (hp11.more (c' := cc + (partL (numsOf s1) m4 n4 m5 n5 m6 n6 m7 n7).length) (by have h2 := HPL.out; omega))
            have M11 : Hid _ := M10.out.step hf11 hd11 (hp11.more (c' := cc + (partL (numsOf s1) m4 n4 m5 n5 m6 n6 m7 n7).length) (by have h2 := HPL.out; omega))
            have K11 : Hid (Kpd w11 W.heap.size D2 30 (.ls p2 n2 r2 e2) ∧ Kpd w11 W.heap.size D2 59 (.ls p3 n3 r3 e3)) := ⟨K2.out.1.go PW2.out M11.out.fx M11.out.dg, K2.out.2.go PW2.out M11.out.fx M11.out.dg⟩
            have O11 : Hid (Ob w11 w2.heap.size #[.string s0, .string s1, .slice p2 n2 r2, .slice p3 n3 r3, .slice (some ⟨w6.heap.size, 0, none⟩) n4 n4, .slice p5 n5 r5, .slice p6 n6 r6, .slice p7 n7 r7, .string s8, .slice p9 n9 r9, .slice p10 n10 r10] 62) := hf11.ob O10.out (L10.out.pw.other O10.out.eq (by decide))
            clear hx11 hf11 hr11 hd11 hp11 Q10 L10 M10 M11 K2 PW2 O10 H10 E10 x0 x1 xl y1 y2 yl
            go_upto_region 11 with fail
            have hpw11 := L11.out.pw
            have HDG : Hid (Dg W D D2) := L11.out.dg
            have hvb : ∀ b, vf.ownBlock = some b → ∃ cs, W.heap[b]? = some (.cells cs 62 (0, 0)) := fun b e => by
              rcases HF0.out.2 with ⟨h0, _⟩ | ⟨g, cap, cur, h0, _, h2, _⟩
              · rw [h0] at e; cases e
              · rw [h0] at e; cases e; exact ⟨cur, h2⟩
            have hrow11 : w11.ownsRow 0 62 11 vf nf xs := owns_fx L11.out.fx HF0.out (fun b e => by
              obtain ⟨cs, hc⟩ := hvb b e
              exact HP.out.other hc (by decide))
            have FX11 : Hid (Fx (Sf bp bs be vf D) W w11) := L11.out.fx.mono (fun b e => .inr (.inr e))
            refine wp_region_heldG 10 (S := fun V => Hid (Ob V bp #[vf, .map (some bs), .map (some be)] 96 ∧ Ob V w2.heap.size #[.string s0, .string s1, .slice p2 n2 r2, .slice p3 n3 r3, .slice (some ⟨w6.heap.size, 0, none⟩) n4 n4, .slice p5 n5 r5, .slice p6 n6 r6, .slice p7 n7 r7, .string s8, .slice p9 n9 r9, .slice p10 n10 r10] 62)) (by kernel_rfl) ?_
            obtain ⟨w12, hw12⟩ : ∃ w12, w12 = w11.drew := ⟨_, rfl⟩
            have hb12 : Below w11.heap.size w11 w12 := by rw [hw12]; exact (Below.refl _ _).drew
            rw [← hw12]
            have P12 : Hid (Pw w12 bp bs be vf h5' D2 d0 (cc + (partL (numsOf s1) m4 n4 m5 n5 m6 n6 m7 n7).length)) := hpw11.below hb12 (Nat.le_refl _)
            have O12 : Hid (Ob w12 w2.heap.size #[.string s0, .string s1, .slice p2 n2 r2, .slice p3 n3 r3, .slice (some ⟨w6.heap.size, 0, none⟩) n4 n4, .slice p5 n5 r5, .slice p6 n6 r6, .slice p7 n7 r7, .string s8, .slice p9 n9 r9, .slice p10 n10 r10] 62) := O11.out.below hb12 O11.out.lt
            have ROW12 : Hid (w12.ownsRow 0 62 11 vf nf xs) := own_below hrow11 hb12
            have FX12 : Hid (Fx (Sf bp bs be vf D) W w12) := FX11.out.also (Fx.of_below hb12)
            have K12 : Hid (Kpd w12 W.heap.size D2 30 (.ls p2 n2 r2 e2) ∧ Kpd w12 W.heap.size D2 59 (.ls p3 n3 r3 e3)) := ⟨K11.out.1.under hb12, K11.out.2.under hb12⟩
            have HS0 : Hid (Ob w12 bp #[vf, .map (some bs), .map (some be)] 96 ∧ Ob w12 w2.heap.size #[.string s0, .string s1, .slice p2 n2 r2, .slice p3 n3 r3, .slice (some ⟨w6.heap.size, 0, none⟩) n4 n4, .slice p5 n5 r5, .slice p6 n6 r6, .slice p7 n7 r7, .string s8, .slice p9 n9 r9, .slice p10 n10 r10] 62) := ⟨P12.out.blk, O12.out⟩
            clear hw12 hb12 hrow11 hpw11 L11 O11 FX11 K11
            refine wpAnyG_take (i := 0) (v := ?_) rfl (by kernel_rfl) (by kernel_rfl) (by kernel_rfl) (by kernel_rfl) (fun _ _ _ h => h) (Or.inl ⟨by rfl, ?_⟩) HS0.out ?_
            rotate_left
            · rintro V HV
              go_simp
              try with_reducible rfl
            refine wpAnyG_take (i := 1) (v := ?_) rfl (by kernel_rfl) (by kernel_rfl) (by kernel_rfl) (by kernel_rfl) (fun _ _ _ h => h) (Or.inl ⟨by rfl, ?_⟩) HS0.out ?_
            rotate_left
            · rintro V HV
              go_simp
              try with_reducible rfl
            refine wpAnyG_take (i := 2) (v := ?_) rfl (by kernel_rfl) (by kernel_rfl) (by kernel_rfl) (by kernel_rfl) (fun _ _ _ h => h) (Or.inl ⟨by rfl, ?_⟩) HS0.out ?_
            rotate_left
            · rintro V HV
              go_simp
              try with_reducible rfl
            refine wpAnyG_take (i := 3) (v := ?_) rfl (by kernel_rfl) (by kernel_rfl) (by kernel_rfl) (by kernel_rfl) (fun _ _ _ h => h) (Or.inl ⟨by rfl, ?_⟩) HS0.out ?_
            rotate_left
            · rintro V HV
              go_simp
              try with_reducible rfl
            refine wpAnyG_take (i := 4) (v := ?_) rfl (by kernel_rfl) (by kernel_rfl) (by kernel_rfl) (by kernel_rfl) (fun _ _ _ h => h) (Or.inl ⟨by rfl, ?_⟩) HS0.out ?_
            rotate_left
            · rintro V HV
              have z1 := HV.out.1.cell 0 rfl
              go_simp
              try with_reducible rfl
            refine wpAnyG_take (i := 5) (v := ?_) rfl (by kernel_rfl) (by kernel_rfl) (by kernel_rfl) (by kernel_rfl) (fun _ _ _ h => h) (Or.inl ⟨by rfl, ?_⟩) HS0.out ?_
            rotate_left
            · rintro V HV
              obtain ⟨⟨z0, z1, z2, z3, z4, z5, z6, z7, z8, z9, z10⟩, _, zl⟩ := ob11 HV.out.2
              go_simp
              try with_reducible rfl
            refine wpAnyG_all (rs := [6]) (by kernel_rfl) (by simp) ?_
            intro i hi
            obtain rfl : i = 6 := by simpa using hi
            clear hi
            refine wpOp_listV rfl ?_
            intro Q' hQ'
            have HQ : Hid _ := hQ'
            clear hQ'
            obtain ⟨w13, hw13⟩ : ∃ w13, w13 = w12.alloc (.cells #[.string s0, .string s1, .slice p2 n2 r2, .slice p3 n3 r3, .slice (some ⟨w6.heap.size, 0, none⟩) n4 n4, .slice p5 n5 r5, .slice p6 n6 r6, .slice p7 n7 r7, .string s8, .slice p9 n9 r9, .slice p10 n10 r10] 62) := ⟨_, rfl⟩
            have hb13 : Below w12.heap.size w12 w13 := by rw [hw13]; exact (Below.refl _ _).alloc (Nat.le_refl _) _
            have n13 : Ob w13 w12.heap.size #[.string s0, .string s1, .slice p2 n2 r2, .slice p3 n3 r3, .slice (some ⟨w6.heap.size, 0, none⟩) n4 n4, .slice p5 n5 r5, .slice p6 n6 r6, .slice p7 n7 r7, .string s8, .slice p9 n9 r9, .slice p10 n10 r10] 62 := by rw [hw13]; exact Ob.new _ _ _
            have P13 := P12.out.below hb13 (Nat.le_refl _)
            have O13 := O12.out.below hb13 O12.out.lt
            have row13 := own_below ROW12.out hb13
            have FX13 : Fx (Sf bp bs be vf D) W w13 := FX12.out.also (Fx.of_below hb13)
            obtain ⟨v14, w14, hr14, ⟨ys, hys, row14⟩, hg14, hl14, ad14, nn14, cp14, rfl⟩ := run_append_fileW w13 vf nf xs row13 (by have := HNF.out; omega) w12.heap.size #[.string s0, .string s1, .slice p2 n2 r2, .slice p3 n3 r3, .slice (some ⟨w6.heap.size, 0, none⟩) n4 n4, .slice p5 n5 r5, .slice p6 n6 r6, .slice p7 n7 r7, .string s8, .slice p9 n9 r9, .slice p10 n10 r10] rfl n13 (by intro u hu; simp only [List.mem_cons, List.not_mem_nil, or_false] at hu; rcases hu with rfl | rfl | rfl | rfl | rfl | rfl | rfl | rfl | rfl | rfl | rfl <;> rfl) 22
            have hf14 : Fx (fun b => vf.ownBlock = some b) w13 w14 := ⟨hg14.os, hg14.tape, hg14.output, hg14.size, fun b hb hn => hg14.block b hb (fun e => hn e.symm)⟩
            have hvt : ∀ b, vf.ownBlock = some b → b < W.heap.size ∧ ∃ cs, w13.heap[b]? = some (.cells cs 62 (0, 0)) := fun b e => by
              refine ⟨(HF0.out.lt b e).2, ?_⟩
              rcases row13.2 with ⟨h0, _⟩ | ⟨g, cap, cur, h0, _, h2, _⟩
              · rw [h0] at e; cases e
              · rw [h0] at e; cases e; exact ⟨cur, h2⟩
            have hbpn : ¬ vf.ownBlock = some bp := fun e => by
              obtain ⟨_, cs, hc⟩ := hvt bp e
              rw [P13.blk.eq] at hc
              cases hc
            have P14 : Pw w14 bp bs be vf h5' D2 d0 (cc + (partL (numsOf s1) m4 n4 m5 n5 m6 n6 m7 n7).length) := P13.fxT hf14 (fun b e => by
              obtain ⟨_, cs, hc⟩ := hvt b e
              exact ⟨cs, _, hc, by decide, by decide, by decide⟩)
            have O14 : Ob w14 w2.heap.size #[.string s0, .string s1, .slice p2 n2 r2, .slice p3 n3 r3, .slice (some ⟨w6.heap.size, 0, none⟩) n4 n4, .slice p5 n5 r5, .slice p6 n6 r6, .slice p7 n7 r7, .string s8, .slice p9 n9 r9, .slice p10 n10 r10] 62 := hf14.ob O13 (fun e => by have := (hvt _ e).1; have := HS2.out; omega)
            have HS13 : Hid (Ob w13 bp #[vf, .map (some bs), .map (some be)] 96 ∧ Ob w13 w2.heap.size #[.string s0, .string s1, .slice p2 n2 r2, .slice p3 n3 r3, .slice (some ⟨w6.heap.size, 0, none⟩) n4 n4, .slice p5 n5 r5, .slice p6 n6 r6, .slice p7 n7 r7, .string s8, .slice p9 n9 r9, .slice p10 n10 r10] 62) := ⟨P13.blk, O13⟩
            have HS14 : Hid (Ob w14 bp #[vf, .map (some bs), .map (some be)] 96 ∧ Ob w14 w2.heap.size #[.string s0, .string s1, .slice p2 n2 r2, .slice p3 n3 r3, .slice (some ⟨w6.heap.size, 0, none⟩) n4 n4, .slice p5 n5 r5, .slice p6 n6 r6, .slice p7 n7 r7, .string s8, .slice p9 n9 r9, .slice p10 n10 r10] 62) := ⟨P14.blk, O14⟩
            have FX14 : Fx (Sf bp bs be vf D) W w14 := FX13.also (hf14.mono (fun b e => .inr (.inl e)))
            have b15 := P14.blk.set 0 (.slice ad14 nn14 cp14)
            have fx15 := fx1 w14 bp 0 (.slice ad14 nn14 cp14)
            have P15 : Hid (Pw (w14.setCell ⟨bp, 0, none⟩ (.slice ad14 nn14 cp14)) bp bs be (.slice ad14 nn14 cp14) h5' D2 d0 (cc + (partL (numsOf s1) m4 n4 m5 n5 m6 n6 m7 n7).length)) := P14.files fx15 (by simpa using b15) ⟨_, _, _, rfl⟩
            have ROW15 : Hid ((w14.setCell ⟨bp, 0, none⟩ (.slice ad14 nn14 cp14)).ownsRow 0 62 11 (.slice ad14 nn14 cp14) (nf + 1) ys) := owns_fx fx15 row14 (fun b e e2 => by
              have e2' : b = bp := e2
              subst e2'
              rcases row14.2 with ⟨h0, _⟩ | ⟨g, cap, cur, h0, _, h2, _⟩
              · rw [h0] at e; cases e
              · rw [h0] at e
                cases e
                rw [P14.blk.eq] at h2
                cases h2)
            have CL15 : Hid (Cfl (w14.setCell ⟨bp, 0, none⟩ (.slice ad14 nn14 cp14)) W.heap.size D2 s0 n2 m2 n3 m3 [.string s0, .string s1, .slice p2 n2 r2, .slice p3 n3 r3, .slice (some ⟨w6.heap.size, 0, none⟩) n4 n4, .slice p5 n5 r5, .slice p6 n6 r6, .slice p7 n7 r7, .string s8, .slice p9 n9 r9, .slice p10 n10 r10]) := by
              have kk : ∀ T m, Kpd w12 W.heap.size D2 T m → Kpd (w14.setCell ⟨bp, 0, none⟩ (.slice ad14 nn14 cp14)) W.heap.size D2 T m := fun T m hk =>
                ((hk.under hb13).chg hf14 (fun b e => .inr (.inr (fun cs E hc => by
                  obtain ⟨_, cs', hc'⟩ := hvt b e
                  rw [hc'] at hc
                  cases hc
                  exact .inr rfl))) (Dg.refl _ _)).chg fx15 (fun b e => .inr (.inr (fun cs E hc => by
                  have e2 : b = bp := e
                  subst e2
                  rw [P14.blk.eq] at hc
                  cases hc
                  exact .inl rfl))) (Dg.refl _ _)
              exact ⟨rfl, s1, s8, p2, p3, some ⟨w6.heap.size, 0, none⟩, p5, p6, p7, p9, p10, r2, r3, n4, n4, n5, r5, n6, r6, n7, r7, n9, r9, n10, r10, e2, e3, rfl, kk _ _ K12.out.1, HAK2.out.1, kk _ _ K12.out.2, HAK2.out.2⟩
            have HYS : Hid _ := hys
            have FX15 : Hid (Fx (Sf bp bs be vf D) W (w14.setCell ⟨bp, 0, none⟩ (.slice ad14 nn14 cp14))) := FX14.also (fx15.mono (fun b e => .inl e))
            have HL15 : Hid ((Value.slice ad14 nn14 cp14).ownBlock = vf.ownBlock ∨ ∃ b, (Value.slice ad14 nn14 cp14).ownBlock = some b ∧ W.heap.size ≤ b) := by
              rcases hl14 with e | e
              · exact .inl e
              · exact .inr ⟨_, e, FX13.size⟩
            obtain ⟨⟨q0, q1, q2⟩, ⟨q3, q4, q5⟩, ql⟩ := ob3 P14.blk
            have HW13 : Hid _ := hw13
            have HR14 : Hid _ := hr14
            clear hw13 hr14 hys K12 HAK2 hb13 n13 P13 O13 row13 FX13 row14 hg14 hl14 hf14 hvt hbpn P14 O14 FX14 b15 fx15 P12 O12 ROW12 FX12 hvb
            go_wp2
            rw [← HW13.out]
            refine HQ.out _ _ ⟨.inr HS13, ?_⟩
            clear HQ HW13
            refine wpAnyG_all (rs := [7]) (by kernel_rfl) (by simp) ?_
            intro i hi
            obtain rfl : i = 7 := by simpa using hi
            clear hi
            refine wpOp_listV rfl ?_
            intro Q' hQ'
            have HQ : Hid _ := hQ'
            clear hQ'
            refine wpList_append_eqX rfl _ _ 22 rfl rfl rfl HR14.out ?_
            refine HQ.out _ _ ⟨.inr HS14, ?_⟩
            clear HQ HR14
            refine wpAnyG_all (rs := [8]) (by kernel_rfl) (by simp) ?_
            intro i hi
            obtain rfl : i = 8 := by simpa using hi
            clear hi
            refine wpOp_listV rfl ?_
            intro Q' hQ'
            have HQ : Hid _ := hQ'
            clear hQ'
            go_wp2
            refine HQ.out _ _ ⟨.inr HS14, ?_⟩
            clear HQ
            refine wpAnyG_all (rs := [9]) (by kernel_rfl) (by simp) ?_
            intro i hi
            obtain rfl : i = 9 := by simpa using hi
            clear hi
            refine wpOp_listV rfl ?_
            intro Q' hQ'
            have HQ : Hid _ := hQ'
            clear hQ'
            go_wp2
            refine HQ.out _ _ ⟨.inr HS14, ?_⟩
            clear HQ
            refine wpAnyG_all (rs := [10]) (by kernel_rfl) (by simp) ?_
            intro i hi
            obtain rfl : i = 10 := by simpa using hi
            clear hi
            refine wpOp_listV rfl ?_
            intro Q' hQ'
            have HQ : Hid _ := hQ'
            clear hQ'
            go_wp2
            refine HQ.out _ _ ⟨.inl (by first | trivial | rfl), ?_⟩
            clear HQ
            refine wpAnyG_done (by kernel_rfl) ?_ _
            clear HS0 HS13 HS14 q0 q1 q2 q3 q4 q5 ql
            go_wp2
            go_end0
            have HRR := HR11.out
            unfold Fend
            rw [HRR]
            exact ⟨FX15.out, rfl, _, _, _, HDG.out, P15.out, by have h1 := HYS.out; have h2 := ROW15.out; rw [h1] at h2; exact h2, CL15.out, HL15.out⟩
          · have HE11 : Hid (fileR s0 h (numsOf s1) (partL (numsOf s1) m4 n4 m5 n5 m6 n6 m7 n7) = .error F') := by
              show _ = _
              unfold fileR partL
              rw [HR4.out]
              show insl s0 h1' _ = _
              rw [insl_ok_left HR7.out, insl_ok_left HR9.out, insl_ok_left HR10.out]
              exact hr11
            exact ⟨rfl, fend_err (L10.out.fx.trans hf11 L10.out.dg.sp) HE11.out⟩
        · have HE10 : Hid (fileR s0 h (numsOf s1) (partL (numsOf s1) m4 n4 m5 n5 m6 n6 m7 n7) = .error F') := by
            show _ = _
            unfold fileR partL
            rw [HR4.out]
            show insl s0 h1' _ = _
            rw [insl_ok_left HR7.out, insl_ok_left HR9.out]
            exact insl_err_left hr10
          exact ⟨rfl, fend_err (L9.out.fx.trans (.of_grown (S := Sp bs be D') hg10 (.inl rfl)) L9.out.dg.sp) HE10.out⟩
      · have HE9 : Hid (fileR s0 h (numsOf s1) (partL (numsOf s1) m4 n4 m5 n5 m6 n6 m7 n7) = .error F') := by
          show _ = _
          unfold fileR partL
          rw [HR4.out]
          show insl s0 h1' _ = _
          rw [insl_ok_left HR7.out]
          exact insl_err_left hr9
        exact ⟨rfl, fend_err (L8.out.fx.trans (.of_grown (S := Sp bs be D') hg9 (.inl rfl)) L8.out.dg.sp) HE9.out⟩
    · have HE7 : Hid (fileR s0 h (numsOf s1) (partL (numsOf s1) m4 n4 m5 n5 m6 n6 m7 n7) = .error F') := by
        show _ = _
        unfold fileR partL
        rw [HR4.out]
        exact insl_err_left hr7
      exact ⟨rfl, fend_err (L6.out.fx.trans hf7 L6.out.dg.sp) HE7.out⟩
  · have HE4 : Hid (fileR s0 h (numsOf s1) (partL (numsOf s1) m4 n4 m5 n5 m6 n6 m7 n7) = .error F') := by
      show _ = _
      unfold fileR
      rw [hr4]
    exact ⟨rfl, fend_err (L3.out.fx.trans (.of_grown (S := Sp bs be D) hg4 (.inl rfl)) (fun _ e => .inl e)) HE4.out⟩

end Go.Proofs.YtafmoceinamcdaaGreat
