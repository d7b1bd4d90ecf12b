/- Put together by a program out of these texts of mine: HMath, HOrd, HMem, JMap, HRef, HDup, JBy, JImp, JLay0. -/
import Derived.SliceStrings
import Derived.Maps.AppendAt
import Derived.Maps.Own
import Derived.Deep.QuietTactic
import Derived.BigQuiet
import Derived.WalkLawsBesides
import Derived.OrdersHeld
import Derived.Test.YtcnjjhdmnagkgaaGreatDoorBunC1
import Derived.Test.YtcnjjhdmnagkgaaGreatDoorBunC5

namespace Go.Proofs.YtcnjjhdmnagkgaaGreatDoor
set_option linter.unusedVariables false
set_option linter.unusedSimpArgs false

structure Un where
  path : ByteArray
  deps : List ByteArray
  pub : List Int

def slt (x y : ByteArray) : Bool := Op.bytesLess x.toList y.toList

theorem bytesLess_irrefl : ∀ (l : List UInt8), Op.bytesLess l l = false
  | [] => by simp [Op.bytesLess]
  | a :: l => by simp [Op.bytesLess, bytesLess_irrefl l]

theorem bytesLess_trans : ∀ (a b c : List UInt8), Op.bytesLess a b = true → Op.bytesLess b c = true → Op.bytesLess a c = true
  | [], [], c, h, _ => by simp [Op.bytesLess] at h
  | [], _ :: _, [], _, h => by simp [Op.bytesLess] at h
  | [], _ :: _, _ :: _, _, _ => by simp [Op.bytesLess]
  | _ :: _, [], _, h, _ => by simp [Op.bytesLess] at h
  | _ :: _, _ :: _, [], _, h => by simp [Op.bytesLess] at h
  | x :: a, y :: b, z :: c, h1, h2 => by
    simp only [Op.bytesLess, Bool.or_eq_true, Bool.and_eq_true, decide_eq_true_eq, beq_iff_eq] at h1 h2 ⊢
    rcases h1 with h1 | ⟨rfl, h1⟩
    · rcases h2 with h2 | ⟨rfl, h2⟩
      · exact .inl (UInt8.lt_trans h1 h2)
      · exact .inl h1
    · rcases h2 with h2 | ⟨rfl, h2⟩
      · exact .inl h2
      · exact .inr ⟨rfl, bytesLess_trans a b c h1 h2⟩

theorem bytesLess_tri : ∀ (a b : List UInt8), Op.bytesLess a b = false → Op.bytesLess b a = false → a = b
  | [], [], _, _ => rfl
  | [], _ :: _, h, _ => by simp [Op.bytesLess] at h
  | _ :: _, [], _, h => by simp [Op.bytesLess] at h
  | x :: a, y :: b, h1, h2 => by
    simp only [Op.bytesLess, Bool.or_eq_false_iff, Bool.and_eq_false_iff, decide_eq_false_iff_not, beq_eq_false_iff_ne] at h1 h2
    have hxy : x = y := by
      have a1 := UInt8.not_lt.1 h1.1
      have a2 := UInt8.not_lt.1 h2.1
      exact UInt8.le_antisymm a2 a1
    subst hxy
    have b1 : Op.bytesLess a b = false := by simpa using h1.2
    have b2 : Op.bytesLess b a = false := by simpa using h2.2
    rw [bytesLess_tri a b b1 b2]

theorem toList_inj {x y : ByteArray} (h : x.toList = y.toList) : x = y := by
  rw [ByteArray.toList_eq, ByteArray.toList_eq] at h
  cases x
  cases y
  simpa using h

theorem slt_irrefl (x : ByteArray) : slt x x = false := bytesLess_irrefl _

theorem slt_trans {x y z : ByteArray} (h1 : slt x y = true) (h2 : slt y z = true) : slt x z = true := bytesLess_trans _ _ _ h1 h2

theorem slt_tri {x y : ByteArray} (h1 : slt x y = false) (h2 : slt y x = false) : x = y := toList_inj (bytesLess_tri _ _ h1 h2)

def hin (l : List ByteArray) (x : ByteArray) : Bool := l.any fun y => decide (y = x)

theorem hin_iff (l : List ByteArray) (x : ByteArray) : hin l x = true ↔ x ∈ l := by
  unfold hin
  simp

theorem hin_not (l : List ByteArray) (x : ByteArray) : ¬ hin l x = true ↔ x ∉ l := not_congr (hin_iff l x)

def hput : List ByteArray → ByteArray → List ByteArray
  | [], s => [s]
  | x :: r, s => if slt x s = true then x :: hput r s else if x = s then x :: r else s :: x :: r

def Ris (l : List ByteArray) : Prop := l.Pairwise fun a b => slt a b = true

theorem hput_mem : ∀ (l : List ByteArray) (s y : ByteArray), y ∈ hput l s ↔ y = s ∨ y ∈ l
  | [], s, y => by simp [hput]
  | x :: r, s, y => by
    rw [hput]
    split
    · rw [List.mem_cons, hput_mem r s y, List.mem_cons]
      constructor
      · rintro (h | h | h)
        · exact .inr (.inl h)
        · exact .inl h
        · exact .inr (.inr h)
      · rintro (h | h | h)
        · exact .inr (.inl h)
        · exact .inl h
        · exact .inr (.inr h)
    · split
      · rename_i h
        subst h
        simp
      · simp

theorem hput_ris : ∀ (l : List ByteArray) (s : ByteArray), Ris l → Ris (hput l s)
  | [], s, _ => by simp [hput, Ris]
  | x :: r, s, h => by
    have h1 := List.pairwise_cons.1 h
    rw [hput]
    split
    · rename_i hx
      refine List.pairwise_cons.2 ⟨fun y hy => ?_, hput_ris r s h1.2⟩
      rcases (hput_mem r s y).1 hy with rfl | hy
      · exact hx
      · exact h1.1 y hy
    · split
      · exact h
      · rename_i hx hne
        have hsx : slt s x = true := by
          cases hq : slt s x with
          | true => rfl
          | false => exact absurd (slt_tri (by simpa using hx) hq) hne
        refine List.pairwise_cons.2 ⟨fun y hy => ?_, h⟩
        rcases List.mem_cons.1 hy with rfl | hy
        · exact hsx
        · exact slt_trans hsx (h1.1 y hy)

theorem ris_ext : ∀ (a b : List ByteArray), Ris a → Ris b → (∀ x, x ∈ a ↔ x ∈ b) → a = b
  | [], [], _, _, _ => rfl
  | [], y :: b, _, _, h => by have := (h y).2 (by simp); simp at this
  | x :: a, [], _, _, h => by have := (h x).1 (by simp); simp at this
  | x :: a, y :: b, ha, hb, h => by
    have h1 := List.pairwise_cons.1 ha
    have h2 := List.pairwise_cons.1 hb
    have hxy : x = y := by
      rcases List.mem_cons.1 ((h x).1 (by simp)) with e | e
      · exact e
      · rcases List.mem_cons.1 ((h y).2 (by simp)) with e2 | e2
        · exact e2.symm
        · have := slt_trans (h2.1 x e) (h1.1 y e2)
          rw [slt_irrefl] at this
          cases this
    subst hxy
    rw [ris_ext a b h1.2 h2.2 (fun z => ?_)]
    constructor
    · intro hz
      rcases List.mem_cons.1 ((h z).1 (by simp [hz])) with rfl | e
      · have := h1.1 z hz
        rw [slt_irrefl] at this
        cases this
      · exact e
    · intro hz
      rcases List.mem_cons.1 ((h z).2 (by simp [hz])) with rfl | e
      · have := h2.1 z hz
        rw [slt_irrefl] at this
        cases this
      · exact e

inductive Rch (next : ByteArray → List ByteArray) (S : List ByteArray) : ByteArray → Prop
  | seed {x : ByteArray} (h : x ∈ S) : Rch next S x
  | step {x y : ByteArray} (h : Rch next S x) (hy : y ∈ next x) : Rch next S y

theorem Rch.least {next : ByteArray → List ByteArray} {S : List ByteArray} {P : ByteArray → Prop} (h0 : ∀ x ∈ S, P x) (h1 : ∀ x, P x → ∀ y ∈ next x, P y) {x : ByteArray} (h : Rch next S x) : P x := by
  induction h with
  | seed h => exact h0 _ h
  | step h hy ih => exact h1 _ ih _ hy

def hunit (l : List Un) (p : ByteArray) : Option Un := l.find? fun u => decide (u.path = p)

def hdeps (l : List Un) (p : ByteArray) : List ByteArray := match hunit l p with | some u => u.deps | none => []

def upubs (u : Un) : List ByteArray := (u.pub.filter fun n : Int => decide (0 ≤ n ∧ n < (u.deps.length : Int))).map fun n : Int => u.deps.getD n.toNat default

def hpubs (l : List Un) (p : ByteArray) : List ByteArray := match hunit l p with | some u => upubs u | none => []

def hbfs (next : ByteArray → List ByteArray) (upd : List ByteArray → ByteArray → List ByteArray) : Nat → List ByteArray → List ByteArray → List ByteArray → List ByteArray
  | 0, _, _, out => out
  | _ + 1, [], _, out => out
  | f + 1, p :: q, done, out => if hin done p = true then hbfs next upd f q done out else hbfs next upd f (q ++ next p) (upd done p) (hput out p)

def hpot (next : ByteArray → List ByteArray) (l : List Un) (done : List ByteArray) : Nat := (l.map fun u => if hin done u.path = true then 0 else (next u.path).length).sum

theorem hpot_less (next : ByteArray → List ByteArray) (done done' : List ByteArray) (p : ByteArray) (hd : ∀ x, x ∈ done' ↔ x = p ∨ x ∈ done) (hp : p ∉ done) : ∀ (l : List Un), ((∃ u ∈ l, u.path = p) ∨ next p = []) → hpot next l done' + (next p).length ≤ hpot next l done
  | [], h => by
    rcases h with ⟨u, hu, _⟩ | h
    · cases hu
    · simp [hpot, h]
  | u :: l, h => by
    have hmono : ∀ (l : List Un), hpot next l done' ≤ hpot next l done := by
      intro l
      induction l with
      | nil => simp [hpot]
      | cons u l ih =>
        unfold hpot at *
        simp only [List.map_cons, List.sum_cons]
        have : (if hin done' u.path = true then 0 else (next u.path).length) ≤ (if hin done u.path = true then 0 else (next u.path).length) := by
          by_cases h1 : u.path ∈ done
          · rw [if_pos ((hin_iff _ _).2 h1), if_pos ((hin_iff _ _).2 ((hd _).2 (.inr h1)))]; omega
          · rw [if_neg ((hin_not _ _).2 h1)]; split <;> omega
        omega
    by_cases hu : u.path = p
    · have := hmono l
      unfold hpot at *
      simp only [List.map_cons, List.sum_cons]
      rw [if_pos ((hin_iff _ _).2 ((hd _).2 (.inl hu))), if_neg ((hin_not _ _).2 (by rw [hu]; exact hp)), hu]
      omega
    · have ih := hpot_less next done done' p hd hp l (by
        rcases h with ⟨v, hv, hvp⟩ | h
        · rcases List.mem_cons.1 hv with rfl | hv
          · exact absurd hvp hu
          · exact .inl ⟨v, hv, hvp⟩
        · exact .inr h)
      have := hmono [u]
      unfold hpot at *
      simp only [List.map_cons, List.sum_cons, List.map_nil, List.sum_nil] at *
      omega

def Lead (next : ByteArray → List ByteArray) (l : List Un) : Prop := ∀ p, (∃ u ∈ l, u.path = p) ∨ next p = []

theorem hunit_some {l : List Un} {p : ByteArray} {u : Un} (h : hunit l p = some u) : u ∈ l ∧ u.path = p := by
  have h1 := List.find?_some h
  exact ⟨List.mem_of_find?_eq_some h, by simpa using h1⟩

theorem lead_pubs (l : List Un) : Lead (hpubs l) l := by
  intro p
  unfold hpubs
  cases h : hunit l p with
  | none => right; rfl
  | some u => left; exact ⟨u, (hunit_some h).1, (hunit_some h).2⟩

theorem hbfs_spec {next : ByteArray → List ByteArray} {upd : List ByteArray → ByteArray → List ByteArray} {l : List Un} (hu : ∀ d p x, x ∈ upd d p ↔ x = p ∨ x ∈ d) (hl : Lead next l) (S : List ByteArray) (O : List ByteArray) :
    ∀ (f : Nat) (q done out : List ByteArray), q.length + hpot next l done ≤ f → Ris out → (∀ x, x ∈ out ↔ x ∈ O ∨ x ∈ done) → (∀ x ∈ S, x ∈ done ∨ x ∈ q) → (∀ x ∈ done, ∀ y ∈ next x, y ∈ done ∨ y ∈ q) → (∀ x, x ∈ done ∨ x ∈ q → Rch next S x) →
      Ris (hbfs next upd f q done out) ∧ ∀ x, x ∈ hbfs next upd f q done out ↔ x ∈ O ∨ Rch next S x
  | f, [], done, out, hf, hr, ho, h1, h2, h3 => by
    have e : hbfs next upd f [] done out = out := by cases f <;> rfl
    rw [e]
    refine ⟨hr, fun x => (ho x).trans ⟨fun h => h.imp id (fun h => h3 x (.inl h)), fun h => h.imp id (fun h => ?_)⟩⟩
    exact h.least (P := fun x => x ∈ done) (fun x hx => by simpa using h1 x hx) (fun x hx y hy => by simpa using h2 x hx y hy)
  | 0, p :: q, done, out, hf, _, _, _, _, _ => by simp at hf
  | f + 1, p :: q, done, out, hf, hr, ho, h1, h2, h3 => by
    rw [hbfs]
    by_cases hp : p ∈ done
    · rw [if_pos ((hin_iff _ _).2 hp)]
      have mv : ∀ x, x ∈ done ∨ x ∈ p :: q → x ∈ done ∨ x ∈ q := by
        rintro x (h | h)
        · exact .inl h
        · rcases List.mem_cons.1 h with rfl | h
          · exact .inl hp
          · exact .inr h
      refine hbfs_spec hu hl S O f q done out (by simp at hf; omega) hr ho (fun x hx => mv x (h1 x hx)) (fun x hx y hy => mv y (h2 x hx y hy)) (fun x hx => h3 x (hx.imp id (fun h => by simp [h])))
    · rw [if_neg ((hin_not _ _).2 hp)]
      have hpot := hpot_less next done (upd done p) p (fun x => hu _ _ _) hp l (hl p)
      refine hbfs_spec hu hl S O f (q ++ next p) (upd done p) (hput out p) (by simp at hf ⊢; omega) (hput_ris _ _ hr) ?_ ?_ ?_ ?_
      · intro x
        rw [hput_mem, ho, hu]
        constructor
        · rintro (h | h | h)
          · exact .inr (.inl h)
          · exact .inl h
          · exact .inr (.inr h)
        · rintro (h | h | h)
          · exact .inr (.inl h)
          · exact .inl h
          · exact .inr (.inr h)
      · intro x hx
        rw [hu, List.mem_append]
        rcases h1 x hx with h | h
        · exact .inl (.inr h)
        · rcases List.mem_cons.1 h with rfl | h
          · exact .inl (.inl rfl)
          · exact .inr (.inl h)
      · intro x hx y hy
        rw [hu, List.mem_append]
        rcases (hu _ _ _).1 hx with rfl | hx
        · exact .inr (.inr hy)
        · rcases h2 x hx y hy with h | h
          · exact .inl (.inr h)
          · rcases List.mem_cons.1 h with rfl | h
            · exact .inl (.inl rfl)
            · exact .inr (.inl h)
      · intro x hx
        rw [hu, List.mem_append] at hx
        have hpr : Rch next S p := h3 p (.inr (by simp))
        rcases hx with (rfl | h) | h | h
        · exact hpr
        · exact h3 x (.inl h)
        · exact h3 x (.inr (by simp [h]))
        · exact .step hpr h

def hvis (l : List Un) (p : ByteArray) : List ByteArray :=
  match hunit l p with
  | none => []
  | some u => hbfs (hpubs l) (fun d x => d ++ [x]) (u.deps.length + hpot (hpubs l) l []) u.deps [] [p]

theorem hvis_spec {l : List Un} {p : ByteArray} {u : Un} (h : hunit l p = some u) : Ris (hvis l p) ∧ ∀ x, x ∈ hvis l p ↔ x = p ∨ Rch (hpubs l) u.deps x := by
  unfold hvis
  rw [h]
  have := hbfs_spec (next := hpubs l) (upd := fun d x => d ++ [x]) (l := l) (fun d p x => by simp [or_comm]) (lead_pubs l) u.deps [p] _ u.deps [] [p] (Nat.le_refl _) (by simp [Ris]) (fun x => by simp) (fun x hx => .inr hx) (fun x hx => by simp at hx) (fun x hx => .seed (by simpa using hx))
  simpa using this

theorem hvis_none {l : List Un} {p : ByteArray} (h : hunit l p = none) : hvis l p = [] := by unfold hvis; rw [h]

end Go.Proofs.YtcnjjhdmnagkgaaGreatDoor

namespace Go.Proofs.YtcnjjhdmnagkgaaGreatDoor
set_option linter.unusedVariables false
set_option linter.unusedSimpArgs false

theorem nodup_le : ∀ (a b : List ByteArray), a.Nodup → (∀ x ∈ a, x ∈ b) → a.length ≤ b.length
  | [], b, _, _ => by simp
  | x :: a, b, hn, hs => by
    have h1 := List.pairwise_cons.1 hn
    have hx : x ∈ b := hs x (by simp)
    obtain ⟨b1, b2, rfl⟩ := List.append_of_mem hx
    have ih := nodup_le a (b1 ++ b2) h1.2 (fun y hy => by
      have h2 := hs y (by simp [hy])
      have hne : y ≠ x := fun e => h1.1 y hy e.symm
      simp only [List.mem_append, List.mem_cons] at h2 ⊢
      rcases h2 with h2 | h2 | h2
      · exact .inl h2
      · exact absurd h2 hne
      · exact .inr h2)
    simp only [List.length_append, List.length_cons] at ih ⊢
    omega

theorem hdeps_of {l : List Un} {p : ByteArray} {u : Un} (h : hunit l p = some u) : hdeps l p = u.deps := by unfold hdeps; rw [h]

end Go.Proofs.YtcnjjhdmnagkgaaGreatDoor

namespace Go.Proofs.YtcnjjhdmnagkgaaGreatDoor
open Go.RowKit
set_option linter.unusedVariables false
set_option linter.unusedSimpArgs false

structure Sb (w : World) (a : Option Addr) (len cap : Nat) (zs : List ByteArray) : Prop where
  hlen : zs.length = len
  h63 : (len : Int) ≤ 9223372036854775807
  hcap : len ≤ cap
  hnil : a = none → cap = 0
  hmem : 0 < len → ∃ b off, a = some ⟨b, off, none⟩ ∧ b < w.heap.size ∧ ∀ (i : Nat) (z : ByteArray), zs[i]? = some z → w.cell? ⟨b, off + i, none⟩ = some (.string z)

theorem Sb.below {w w' : World} {a : Option Addr} {len cap : Nat} {zs : List ByteArray} (h : Sb w a len cap zs) (hb : Below w.heap.size w w') : Sb w' a len cap zs := by
  refine ⟨h.hlen, h.h63, h.hcap, h.hnil, fun hp => ?_⟩
  obtain ⟨b, off, h1, hlt, hc⟩ := h.hmem hp
  exact ⟨b, off, h1, Nat.lt_of_lt_of_le hlt hb.size, fun i z hi => (hb.cell hlt).trans (hc i z hi)⟩

structure Sn (w : World) (a : Option Addr) (len cap : Nat) (zs : List Int) : Prop where
  hlen : zs.length = len
  h63 : (len : Int) ≤ 9223372036854775807
  hcap : len ≤ cap
  hnil : a = none → cap = 0
  hbd : ∀ z ∈ zs, -9223372036854775808 ≤ z ∧ z ≤ 9223372036854775807
  hmem : 0 < len → ∃ b off, a = some ⟨b, off, none⟩ ∧ b < w.heap.size ∧ ∀ (i : Nat) (z : Int), zs[i]? = some z → w.cell? ⟨b, off + i, none⟩ = some (.int .i64 z)

theorem Sn.below {w w' : World} {a : Option Addr} {len cap : Nat} {zs : List Int} (h : Sn w a len cap zs) (hb : Below w.heap.size w w') : Sn w' a len cap zs := by
  refine ⟨h.hlen, h.h63, h.hcap, h.hnil, h.hbd, fun hp => ?_⟩
  obtain ⟨b, off, h1, hlt, hc⟩ := h.hmem hp
  exact ⟨b, off, h1, Nat.lt_of_lt_of_le hlt hb.size, fun i z hi => (hb.cell hlt).trans (hc i z hi)⟩

structure Um where
  path : ByteArray
  da : Option Addr
  dc : Nat
  deps : List ByteArray
  pa : Option Addr
  pc : Nat
  pub : List Int

def Um.un (u : Um) : Un := ⟨u.path, u.deps, u.pub⟩

def Um.cells (u : Um) : List Value := [.string u.path, .slice u.da u.deps.length u.dc, .slice u.pa u.pub.length u.pc]

structure Ul (w : World) (a : Option Addr) (len cap : Nat) (us : List Um) : Prop where
  hlen : us.length = len
  h63 : (len : Int) ≤ 9223372036854775807
  hcap : len ≤ cap
  hnil : a = none → cap = 0
  hmem : 0 < len → ∃ b off, a = some ⟨b, off, none⟩ ∧ b < w.heap.size ∧ ∀ (i : Nat) (u : Um), us[i]? = some u → ∀ (j : Nat) (v : Value), u.cells[j]? = some v → w.cell? ⟨b, off + i * 3 + j, none⟩ = some v
  hall : ∀ (i : Nat) (u : Um), us[i]? = some u → Sb w u.da u.deps.length u.dc u.deps ∧ Sn w u.pa u.pub.length u.pc u.pub

theorem Ul.below {w w' : World} {a : Option Addr} {len cap : Nat} {us : List Um} (h : Ul w a len cap us) (hb : Below w.heap.size w w') : Ul w' a len cap us := by
  refine ⟨h.hlen, h.h63, h.hcap, h.hnil, fun hp => ?_, fun i u hi => ⟨(h.hall i u hi).1.below hb, (h.hall i u hi).2.below hb⟩⟩
  obtain ⟨b, off, h1, hlt, hc⟩ := h.hmem hp
  exact ⟨b, off, h1, Nat.lt_of_lt_of_le hlt hb.size, fun i u hi j v hj => (hb.cell hlt).trans (hc i u hi j v hj)⟩

theorem unit_cells {w : World} {b off k : Nat} {us : List Um} {u : Um} (hc : ∀ (i : Nat) (u : Um), us[i]? = some u → ∀ (j : Nat) (v : Value), u.cells[j]? = some v → w.cell? ⟨b, off + i * 3 + j, none⟩ = some v) (hk : us[k]? = some u) :
    w.cell? ⟨b, off + k * 3, none⟩ = some (.string u.path) ∧ w.cell? ⟨b, off + k * 3 + 1, none⟩ = some (.slice u.da u.deps.length u.dc) ∧ w.cell? ⟨b, off + k * 3 + 2, none⟩ = some (.slice u.pa u.pub.length u.pc) :=
  ⟨hc k u hk 0 _ rfl, hc k u hk 1 _ rfl, hc k u hk 2 _ rfl⟩

def Sw (w : World) (base : Nat) (v : Value) (zs : List ByteArray) : Prop := w.ownsRow base 9 1 v zs.length (zs.map Value.string)

theorem Sw.nil (w : World) (base : Nat) : Sw w base (.slice none 0 0) [] := World.ownsRow_nil _ _ _ _

theorem Sw.below {w w' : World} {base : Nat} {v : Value} {zs : List ByteArray} (h : Sw w base v zs) (hb : Below w.heap.size w w') : Sw w' base v zs := own_below h hb

theorem Sw.base {w : World} {base base' : Nat} {v : Value} {zs : List ByteArray} (h : Sw w base v zs) (hb : base' ≤ base) : Sw w base' v zs := own_base h hb

theorem Sw.slice {w : World} {base : Nat} {v : Value} {zs : List ByteArray} (h : Sw w base v zs) : ∃ a c, v = .slice a zs.length c := own_slice h

theorem Sb.of_own {w : World} {base : Nat} {a : Option Addr} {len cap : Nat} {zs : List ByteArray} (h : Sw w base (.slice a len cap) zs) : Sb w a len cap zs := by
  rcases h.2 with ⟨he, hn⟩ | ⟨g, c, cur, he, hg, hh, h1, h2, h3, h4⟩
  · simp at he
    obtain ⟨rfl, rfl, rfl⟩ := he
    exact ⟨hn, by omega, Nat.le_refl _, fun _ => rfl, fun h => absurd h (by omega)⟩
  · simp at he
    obtain ⟨rfl, rfl, rfl⟩ := he
    refine ⟨rfl, by unfold maxLen at h2; omega, h1, (fun h => by simp at h), fun _ => ⟨g, 0, rfl, (h.lt g rfl).2, fun i z hi => ?_⟩⟩
    have hil : i < zs.length := (List.getElem?_eq_some_iff.1 hi).1
    have := h.cellAt i (by omega)
    rw [Nat.zero_add, this]
    simp [hi]

theorem Tryz.infoStr2 : (Tryz.prog.info? 9).map (fun i => (i.zero, i.size, i.bytes)) = some (some (.string { data := #[] }), 1, 16) := by kernel_rfl

theorem wpList_append_sw {w : World} {ops : Array Oper} {rest : List Oper} {o : Oper} {f : Act} {Q : Exit → Act → World → Prop} (hgd : o.guard = none) (s x : Operand)
    (ho : o.op = .call { callee := .builtin .append, args := #[s, x], argTypes := #[40, 40] }) (base : Nat) (v : Value) (zs : List ByteArray) (z : ByteArray) (b cap : Nat)
    (hs : f.eval s = v) (hx : f.eval x = .slice (some ⟨b, 0, none⟩) 1 cap) (hown : Sw w base v zs) (hc : w.cell? ⟨b, 0, none⟩ = some (.string z)) (hn : zs.length + 1 ≤ 1000000) (hbase : base ≤ w.heap.size)
    (h : ∀ v' w', Sw w' base v' (zs ++ [z]) → w.grownBy w' v.ownBlock → (v'.ownBlock = v.ownBlock ∨ v'.ownBlock = some w.heap.size) → wpList Tryz.prog ops Q rest (f.put o.dst v') w') : wpList Tryz.prog ops Q (o :: rest) f w := by
  refine wpList_plain hgd fun K hK => ?_
  obtain ⟨i0, hi, hz0, hz1, hz2⟩ := info_parts Tryz.infoStr2
  obtain ⟨v', w', hrun, h1, h2, _, h3⟩ := run_append_own_at (P := Tryz.prog) w base 40 o.type 9 i0 _ 1 16 Tryz.underlying40 hi hz0 hz1 hz2 rfl (by decide) v zs.length _ hown ⟨b, 0, none⟩ 1 cap [.string z] rfl
    (fun j u hj => by
      match j, hj with
      | 0, hj => simp at hj; subst hj; simpa [Addr.add] using hc)
    (fun u hu => by simp at hu; subst hu; rfl) (by unfold maxLen; omega) (by omega) hbase
  unfold Oper.wp
  simp [execOp, ho, resolve, invoke, builtin, hs, hx, hrun, Result.andThen]
  exact hK _ _ (h v' w' (by unfold Sw; simpa using h1) h2 h3)

theorem text_cell (W : World) (s : ByteArray) : (W.alloc (.cells #[.string s] 9)).cell? ⟨W.heap.size, 0, none⟩ = some (.string s) := by
  rw [World.cell?_alloc_new]; rfl

end Go.Proofs.YtcnjjhdmnagkgaaGreatDoor

namespace Go.Proofs.YtcnjjhdmnagkgaaGreatDoor
open Go.RowKit
open Go.ChangeMaps (setBlock heap_setBlock_same heap_setBlock_other modify_eq_set)
set_option linter.unusedVariables false
set_option linter.unusedSimpArgs false

theorem strKeyed : Maps.Keyed Tryz.prog 9 := Maps.string_keyed Tryz.underlying9

def Mg (w : World) (b n : Nat) (g : ByteArray → Option Value) : Prop :=
  ∃ es clock, w.heap[b]? = some (.map es clock) ∧ MapKept.Stamped es clock ∧ (∀ e ∈ es.toList, ∃ k : ByteArray, e.key = .string k ∧ k.size ≤ maxLen) ∧ es.size = n ∧ ∀ k v, g k = some v ↔ ∃ e ∈ es.toList, e.key = .string k ∧ e.val = v

theorem keyStr {k : ByteArray} (h : k.size ≤ maxLen) : keyOf Tryz.prog 9 (.string k) = some (.string k.data.toList) := by
  have h1 := Tryz.underlying9
  simp [keyOf, h1, mapKey, h]

theorem Mg.lt {w : World} {b n : Nat} {g : ByteArray → Option Value} (h : Mg w b n g) : b < w.heap.size := by
  obtain ⟨es, clock, hb, _⟩ := h
  exact (Array.getElem?_eq_some_iff.1 hb).1

theorem Mg.made (w : World) : Mg (w.alloc (.map #[] 0)) w.heap.size 0 (fun _ => none) :=
  ⟨#[], 0, heap_alloc_new w _, MapKept.stamped_empty 0, by simp, rfl, by simp⟩

theorem Mg.kept {w w' : World} {b n : Nat} {g : ByteArray → Option Value} {row : Option Nat} (h : Mg w b n g) (hg : w.grownBy w' row) (hne : some b ≠ row) : Mg w' b n g := by
  have hlt := h.lt
  obtain ⟨es, clock, hb, r⟩ := h
  exact ⟨es, clock, (hg.block b hlt hne).trans hb, r⟩

theorem Mg.below {w w' : World} {b n : Nat} {g : ByteArray → Option Value} (h : Mg w b n g) {m : Nat} (hb : Below m w w') (hm : b < m) : Mg w' b n g := by
  obtain ⟨es, clock, h1, r⟩ := h
  exact ⟨es, clock, (hb.block b hm).trans h1, r⟩

theorem Mg.congr {w : World} {b n : Nat} {g g' : ByteArray → Option Value} (h : Mg w b n g) (e : ∀ k, g k = g' k) : Mg w b n g' := by
  obtain rfl : g = g' := funext e
  exact h

def mlook (z : Value) : Option Value → Bool → Value
  | some v, true => .tuple #[v, .bool true]
  | none, true => .tuple #[z, .bool false]
  | some v, false => v
  | none, false => z

theorem Mg.look {w : World} {b n : Nat} {g : ByteArray → Option Value} (h : Mg w b n g) {t e : TypeId} (ht : Tryz.prog.underlying t = some (.map 9 e)) {z : Value} (hz : (zeroValue e).run Tryz.prog w = .ok z w) (k : ByteArray) (hk : k.size ≤ maxLen) (c : Bool) :
    (Instr.lookup t (.map (some b)) (.string k) c).run Tryz.prog w = .ok (mlook z (g k) c) w := by
  obtain ⟨es, clock, hb, hst, hkeys, hn, hg⟩ := h
  have hkey := keyStr hk
  rcases strKeyed.find w hkey es.toList (fun e he => by obtain ⟨x, hx, hxs⟩ := hkeys e he; rw [hx]; exact ⟨_, keyStr hxs⟩) with ⟨h1, h2⟩ | ⟨j, e0, h1, h2, h3⟩
  · have hgn : g k = none := by
      cases hq : g k with
      | none => rfl
      | some v => obtain ⟨e, he, hek, _⟩ := (hg k v).1 hq; exact absurd hek (h2 e he)
    rw [hgn]
    cases c <;> simp [Instr.lookup, run_underlying ht, MapKept.run_getObj_map hb, strKeyed.check w _ hkey, h1, hz, Result.andThen, mlook]
  · have hgs : g k = some e0.val := (hg k _).2 ⟨e0, List.mem_of_getElem? h2, h3, rfl⟩
    rw [hgs]
    cases c <;> simp [Instr.lookup, run_underlying ht, MapKept.run_getObj_map hb, strKeyed.check w _ hkey, h1, Result.andThen, mlook]

theorem Mg.put {w : World} {b n : Nat} {g : ByteArray → Option Value} (h : Mg w b n g) {t e : TypeId} (ht : Tryz.prog.underlying t = some (.map 9 e)) (k : ByteArray) (hk : k.size ≤ maxLen) (v : Value) :
    ∃ w', (Instr.mapUpdate t (.map (some b)) (.string k) v).run Tryz.prog w = .ok () w' ∧ Mg w' b (match g k with | none => n + 1 | some _ => n) (fun x => if x = k then some v else g x) ∧ w.grownBy w' (some b) := by
  obtain ⟨es, clock, hb, hst, hkeys, hn, hg⟩ := h
  have hkey := keyStr hk
  have grown : ∀ o : Obj, w.grownBy (setBlock w b o) (some b) := fun o => ⟨rfl, rfl, rfl, by simp [setBlock], fun i _ hi => heap_setBlock_other hb _ (fun e => hi (by rw [e]))⟩
  have sinj : ∀ {x y : ByteArray}, Value.string x = .string y → x = y := fun e => by simpa using e
  rcases strKeyed.find w hkey es.toList (fun e he => by obtain ⟨x, hx, hxs⟩ := hkeys e he; rw [hx]; exact ⟨_, keyStr hxs⟩) with ⟨h1, h2⟩ | ⟨j, e0, h1, h2, h3⟩
  · have hgn : g k = none := by
      cases hq : g k with
      | none => rfl
      | some v => obtain ⟨e, he, hek, _⟩ := (hg k v).1 hq; exact absurd hek (h2 e he)
    rw [hgn]
    refine ⟨setBlock w b (.map (es.push ⟨.string k, v, clock⟩) (clock + 1)), ?_, ⟨_, _, heap_setBlock_same hb _, MapKept.stamped_push hst h2, ?_, by simp [hn], ?_⟩, grown _⟩
    · simp [Instr.mapUpdate, run_underlying ht, MapKept.run_getObj_map hb, strKeyed.check w false hkey, h1, MapKept.run_setObj_map _ hb, Result.andThen, setBlock]
    · intro x hx
      simp only [Array.toList_push, List.mem_append, List.mem_singleton] at hx
      rcases hx with hx | rfl
      · exact hkeys x hx
      · exact ⟨k, rfl, hk⟩
    · intro x u
      simp only [Array.toList_push, List.mem_append, List.mem_singleton]
      by_cases hx : x = k
      · subst hx
        rw [if_pos rfl]
        constructor
        · intro hu
          exact ⟨_, .inr rfl, rfl, by simpa using hu⟩
        · rintro ⟨y, hy | rfl, hyk, hyv⟩
          · exact absurd hyk (h2 y hy)
          · simpa using hyv
      · rw [if_neg hx, hg]
        constructor
        · rintro ⟨y, hy, r⟩
          exact ⟨y, .inl hy, r⟩
        · rintro ⟨y, hy | rfl, hyk, hyv⟩
          · exact ⟨y, hy, hyk, hyv⟩
          · exact absurd (sinj hyk).symm hx
  · have hgs : g k = some e0.val := (hg k _).2 ⟨e0, List.mem_of_getElem? h2, h3, rfl⟩
    rw [hgs]
    have hj : es[j]? = some e0 := by simpa using h2
    have hjl : j < es.toList.length := (List.getElem?_eq_some_iff.1 h2).1
    have hlist : (es.modify j (fun e' => { e' with key := .string k, val := v })).toList = es.toList.set j { e0 with key := .string k, val := v } := by rw [Array.toList_modify, modify_eq_set _ _ _ _ h2]
    have hkeyf : ∀ e', es[j]? = some e' → ({ e' with key := .string k, val := v } : MapEntry).key = e'.key := fun e' he' => by rw [hj] at he'; cases he'; exact h3.symm
    have hpw := (MapKept.stamped_iff _ _).1 hst
    have other : ∀ (i : Nat) (e : MapEntry), es.toList[i]? = some e → i ≠ j → e.key ≠ .string k := by
      intro i e hi hne hek
      have hi' := (List.getElem?_eq_some_iff.1 hi)
      have hj' := (List.getElem?_eq_some_iff.1 h2)
      obtain ⟨hi1, hi2⟩ := hi'
      obtain ⟨hj1, hj2⟩ := hj'
      have pw := List.pairwise_iff_getElem.1 hpw.2.2
      rcases Nat.lt_or_gt_of_ne hne with hlt | hlt
      · exact pw i j hi1 hj1 hlt (by rw [hi2, hj2, hek, h3])
      · exact pw j i hj1 hi1 hlt (by rw [hi2, hj2, hek, h3])
    have who : ∀ x, x ∈ es.toList.set j { e0 with key := .string k, val := v } ↔ x = { e0 with key := .string k, val := v } ∨ (x ∈ es.toList ∧ x.key ≠ .string k) := by
      intro x
      constructor
      · intro hx
        obtain ⟨i, hi, ex⟩ := List.getElem_of_mem hx
        rw [List.getElem_set] at ex
        split at ex
        · exact Or.inl ex.symm
        · rename_i hne
          have hi' : i < es.toList.length := by simpa using hi
          exact Or.inr ⟨ex ▸ List.getElem_mem hi', other i x (by rw [List.getElem?_eq_getElem hi', ex]) (fun e => hne e.symm)⟩
      · rintro (rfl | ⟨hx, hxk⟩)
        · exact List.mem_iff_getElem.2 ⟨j, by simpa using hjl, by simp⟩
        · obtain ⟨i, hi⟩ := List.getElem?_of_mem hx
          have hij : i ≠ j := fun e => by subst e; rw [h2] at hi; cases hi; exact hxk h3
          have hi' := (List.getElem?_eq_some_iff.1 hi)
          obtain ⟨hi1, hi2⟩ := hi'
          exact List.mem_iff_getElem.2 ⟨i, by simpa using hi1, by rw [List.getElem_set_ne (fun e => hij e.symm)]; exact hi2⟩
    refine ⟨setBlock w b (.map (es.modify j (fun e' => { e' with key := .string k, val := v })) clock), ?_, ⟨_, _, heap_setBlock_same hb _, MapKept.stamped_modify hst _ _ (fun _ _ => rfl) (fun e' _ he' => hkeyf e' he'), ?_, by simp [hn], ?_⟩, grown _⟩
    · simp [Instr.mapUpdate, run_underlying ht, MapKept.run_getObj_map hb, strKeyed.check w false hkey, h1, hj, h3, strKeyed.stays w hkey, MapKept.run_setObj_map _ hb, Result.andThen, setBlock]
    · intro x hx
      have hx := hlist.subst (motive := fun l => x ∈ l) hx
      rcases (who x).1 hx with rfl | ⟨hx, _⟩
      · exact ⟨k, rfl, hk⟩
      · exact hkeys x hx
    · intro x u
      show (if x = k then some v else g x) = some u ↔ ∃ e ∈ (es.modify j (fun e' => { e' with key := .string k, val := v })).toList, e.key = .string x ∧ e.val = u
      rw [hlist]
      by_cases hx : x = k
      · subst hx
        rw [if_pos rfl]
        constructor
        · intro hu
          exact ⟨_, (who _).2 (.inl rfl), rfl, by simpa using hu⟩
        · rintro ⟨y, hy, hyk, hyv⟩
          rcases (who y).1 hy with rfl | ⟨_, h⟩
          · simpa using hyv
          · exact absurd hyk h
      · rw [if_neg hx, hg]
        constructor
        · rintro ⟨y, hy, hyk, r⟩
          exact ⟨y, (who y).2 (.inr ⟨hy, fun e => hx (sinj (hyk.symm.trans e))⟩), hyk, r⟩
        · rintro ⟨y, hy, hyk, hyv⟩
          rcases (who y).1 hy with rfl | ⟨hy, _⟩
          · exact absurd (sinj hyk).symm hx
          · exact ⟨y, hy, hyk, hyv⟩

theorem Mg.len {w : World} {b n : Nat} {g : ByteArray → Option Value} (h : Mg w b n g) {t e : TypeId} (ht : Tryz.prog.underlying t = some (.map 9 e)) (ty : TypeId) :
    (Builtin.len_ #[t] ty #[.map (some b)]).run Tryz.prog w = .ok (goInt n) w := by
  obtain ⟨es, clock, hb, hst, hkeys, hn, hg⟩ := h
  simp [Builtin.len_, run_underlying ht, MapKept.run_getObj_map hb, Result.andThen, hn]

end Go.Proofs.YtcnjjhdmnagkgaaGreatDoor

namespace Go.Proofs.YtcnjjhdmnagkgaaGreatDoor
open Go.RowKit
set_option linter.unusedVariables false
set_option linter.unusedSimpArgs false

def hfew (us : List Um) : Bool := decide (us.length ≤ 30) && us.all fun u => decide (u.deps.length ≤ 30) && decide (u.pub.length ≤ 30)

theorem hfew_of {us : List Um} (h : hfew us = true) : us.length ≤ 30 ∧ ∀ (j : Nat) (u : Um), us[j]? = some u → u.deps.length ≤ 30 ∧ u.pub.length ≤ 30 := by
  unfold hfew at h
  rw [Bool.and_eq_true] at h
  refine ⟨of_decide_eq_true h.1, fun j u hj => ?_⟩
  have := List.all_eq_true.1 h.2 u (List.mem_of_getElem? hj)
  simpa using this

theorem blk_set {w : World} {g : Nat} {cs : Array Value} {t : TypeId} (h : w.heap[g]? = some (.cells cs t (0, 0))) (j : Nat) (v : Value) : (w.setCell ⟨g, j, none⟩ v).heap[g]? = some (.cells (cs.setIfInBounds j v) t (0, 0)) := by
  rw [setCell_eq_setRow w g j cs t (0, 0) v h]
  exact setRow_heap w g cs _ t _ h

theorem own_at {w : World} {base : Nat} {v : Value} {zs : List ByteArray} (h : Sw w base v zs) {k : Nat} (hk : v.ownBlock = some k) : base ≤ k ∧ k < w.heap.size := h.lt k hk

def Tsm (s : ByteArray) : Prop := s.size ≤ 140737488355328

def Usm (us : List Um) : Prop := ∀ u ∈ us, Tsm u.path ∧ ∀ d ∈ u.deps, Tsm d

theorem Tsm.key {s : ByteArray} (h : Tsm s) : s.size ≤ maxLen := by unfold Tsm at h; unfold maxLen; omega

def Um.val (u : Um) : Value := .agg #[.string u.path, .slice u.da u.deps.length u.dc, .slice u.pa u.pub.length u.pc]

def ug (us : List Um) (p : ByteArray) : Option Value := (us.find? fun u => decide (u.path = p)).map Um.val

theorem ug_snoc_some {us : List Um} {u : Um} {v : Value} (h : ug us u.path = some v) (p : ByteArray) : ug us p = ug (us ++ [u]) p := by
  unfold ug at *
  rw [List.find?_append]
  by_cases hp : u.path = p
  · subst hp
    cases hq : us.find? (fun x => decide (x.path = u.path)) with
    | none => rw [hq] at h; cases h
    | some x => rfl
  · have : List.find? (fun u => decide (u.path = p)) [u] = none := by simp [hp]
    rw [this, Option.or_none]

theorem ug_snoc_none {us : List Um} {u : Um} (h : ug us u.path = none) (p : ByteArray) : (if p = u.path then some u.val else ug us p) = ug (us ++ [u]) p := by
  unfold ug at *
  rw [List.find?_append]
  by_cases hp : p = u.path
  · subst hp
    have hq : us.find? (fun x => decide (x.path = u.path)) = none := by simpa using h
    rw [if_pos rfl, hq]
    simp
  · have : List.find? (fun u => decide (u.path = p)) [u] = none := by simp; exact fun e => hp e.symm
    rw [if_neg hp, this, Option.or_none]

theorem ug_some {us : List Um} {p : ByteArray} {v : Value} (h : ug us p = some v) : ∃ u ∈ us, u.path = p ∧ v = u.val ∧ hunit (us.map Um.un) p = some u.un := by
  unfold ug at h
  cases hq : us.find? (fun u => decide (u.path = p)) with
  | none => rw [hq] at h; cases h
  | some u =>
    rw [hq] at h
    refine ⟨u, List.mem_of_find?_eq_some hq, by simpa using List.find?_some hq, by simpa using h.symm, ?_⟩
    unfold hunit
    rw [List.find?_map]
    have : (fun u : Un => decide (u.path = p)) ∘ Um.un = fun u : Um => decide (u.path = p) := rfl
    rw [this, hq]
    rfl

theorem ug_none {us : List Um} {p : ByteArray} (h : ug us p = none) : hunit (us.map Um.un) p = none := by
  unfold ug at h
  unfold hunit
  rw [List.find?_map]
  have : (fun u : Un => decide (u.path = p)) ∘ Um.un = fun u : Um => decide (u.path = p) := rfl
  rw [this]
  cases hq : us.find? (fun u => decide (u.path = p)) with
  | none => rfl
  | some u => rw [hq] at h; cases h

theorem take_snoc {α : Type} {l : List α} {k : Nat} {x : α} (h : l[k]? = some x) : l.take (k + 1) = l.take k ++ [x] := by
  obtain ⟨hk, hx⟩ := List.getElem?_eq_some_iff.1 h
  rw [List.take_add_one, h]
  rfl

theorem zeroUnit (w : World) : (zeroValue 104).run Tryz.prog w = .ok (.agg #[.string ⟨#[]⟩, .slice none 0 0, .slice none 0 0]) w := by kernel_rfl

set_option maxRecDepth 10000 in
set_option maxHeartbeats 2000000 in
theorem pby_any {w : World} {a : Option Addr} {len cap : Nat} {us : List Um} (hU : Hid (Ul w a len cap us)) (hs : Hid (Usm us)) (W : World) (hB : Below w.heap.size w W) :
    Calls Tryz.prog 73 #[.slice a len cap] W fun e W' => e = .returned (.map (some W.heap.size)) ∧ (∃ n, Mg W' W.heap.size n (ug us)) ∧ Below W.heap.size W W' := by
  obtain ⟨h1, h2, h3, h4, h6, _⟩ := hU.out.below hB
  have H1 : Hid (us.length = len) := h1
  have H6 : Hid _ := h6
  clear h1 h6 hU hB w
  have hmm := @run_makeMap Tryz.prog
  go_enter Tryz.func73, Tryz.ntmps73
  go_wp2
  go_loopw [11] (fun v wr => ∃ k : Nat, v = .int .i64 (k : Int) ∧ k ≤ len ∧ Hid (∃ n, Mg wr W.heap.size n (ug (us.take k))) ∧ Hid (Below W.heap.size W wr)) (fun v _ => len - (intOf v).toNat)
  case atStart => exact ⟨0, rfl, by omega, ⟨0, (Mg.made W).congr (fun _ => by simp [ug])⟩, (Below.refl _ _).alloc (Nat.le_refl _) _⟩
  case round =>
    obtain ⟨k, rfl, hk, HM, HB⟩ := hrel
    by_cases hkl : k < len
    · obtain ⟨b, off, rfl, hlt, hc⟩ := H6.out (by omega)
      obtain ⟨u, hu⟩ : ∃ u, us[k]? = some u := ⟨us[k]'(by rw [H1.out]; exact hkl), List.getElem?_eq_getElem (by rw [H1.out]; exact hkl)⟩
      obtain ⟨c0, c1, c2⟩ := unit_cells (w := wr) (fun i u hi j v hj => (HB.out.cell hlt).trans (hc i u hi j v hj)) hu
      have hlt2 : b < wr.heap.size := Nat.lt_of_lt_of_le hlt HB.out.size
      obtain ⟨n, hM⟩ := HM.out
      have hsz := (hs.out u (List.mem_of_getElem? hu)).1.key
      have hM1 := hM.kept (World.grownBy_alloc wr (.cells #[.string u.path, .slice u.da u.deps.length u.dc, .slice u.pa u.pub.length u.pc] 104) none) (by simp)
      have hlk := hM1.look Tryz.underlying149 (zeroUnit _) u.path hsz true
      have HB1 : Hid (Below W.heap.size W (wr.alloc (.cells #[.string u.path, .slice u.da u.deps.length u.dc, .slice u.pa u.pub.length u.pc] 104))) := HB.out.alloc HB.out.size _
      cases hq : ug (us.take k) u.path with
      | some v =>
        rw [hq] at hlk
        obtain ⟨u2, _, _, rfl, _⟩ := ug_some hq
        simp only [mlook, Um.val] at hlk
        have HM2 : Hid (∃ n, Mg ((wr.alloc (.cells #[.string u.path, .slice u.da u.deps.length u.dc, .slice u.pa u.pub.length u.pc] 104)).alloc (.cells #[.string u2.path, .slice u2.da u2.deps.length u2.dc, .slice u2.pa u2.pub.length u2.pc] 104)) W.heap.size n (ug (us.take (k + 1)))) := ⟨n, by
          rw [take_snoc hu]
          exact (hM1.kept (World.grownBy_alloc _ _ none) (by simp)).congr (ug_snoc_some hq)⟩
        have HB2 : Hid (Below W.heap.size W ((wr.alloc (.cells #[.string u.path, .slice u.da u.deps.length u.dc, .slice u.pa u.pub.length u.pc] 104)).alloc (.cells #[.string u2.path, .slice u2.da u2.deps.length u2.dc, .slice u2.pa u2.pub.length u2.pc] 104))) := HB1.out.alloc HB1.out.size _
        obtain ⟨up, uda, udc, ud, upa, upc, upb⟩ := u
        obtain ⟨up2, uda2, udc2, ud2, upa2, upc2, upb2⟩ := u2
        simp only at c0 c1 c2 hlk HM2 HB2
        clear HM HB HB1 hM hM1 hu hq hc hsz
        go_wp2
        go_roundw
        case rel => first | exact ⟨k + 1, by go_num, by omega, HM2, HB2⟩ | ((repeat apply Exists.intro); exact ⟨⟨k + 1, by go_num, by omega, HM2, HB2⟩, rfl⟩)
        case measure => simp [intOf]; omega
      | none =>
        rw [hq] at hlk
        simp only [mlook] at hlk
        have hM2 := hM1.kept (World.grownBy_alloc (wr.alloc (.cells #[.string u.path, .slice u.da u.deps.length u.dc, .slice u.pa u.pub.length u.pc] 104)) (.cells #[.string ⟨#[]⟩, .slice none 0 0, .slice none 0 0] 104) none) (by simp)
        obtain ⟨w3, hup, hM3, hg3⟩ := hM2.put Tryz.underlying149 u.path hsz u.val
        have HM3 : Hid (∃ n, Mg w3 W.heap.size n (ug (us.take (k + 1)))) := ⟨_, by
          rw [take_snoc hu]
          exact hM3.congr (ug_snoc_none hq)⟩
        have HB3 : Hid (Below W.heap.size W w3) := by
          have h2 := HB1.out.alloc HB1.out.size (.cells #[.string ⟨#[]⟩, .slice none 0 0, .slice none 0 0] 104)
          exact h2.grown hg3 h2.size (fun j hj => by cases hj; exact Nat.le_refl _)
        obtain ⟨up, uda, udc, ud, upa, upc, upb⟩ := u
        simp only [Um.val] at c0 c1 c2 hlk hup
        clear HM HB HB1 hM hM1 hM2 hM3 hg3 hu hq hc hsz
        go_wp2
        go_roundw
        case rel => first | exact ⟨k + 1, by go_num, by omega, HM3, HB3⟩ | ((repeat apply Exists.intro); exact ⟨⟨k + 1, by go_num, by omega, HM3, HB3⟩, rfl⟩)
        case measure => simp [intOf]; omega
    · obtain rfl : k = len := by omega
      have HM2 : Hid (∃ n, Mg wr W.heap.size n (ug us)) := by
        have := HM.out
        rw [List.take_of_length_le (by rw [H1.out]; exact Nat.le_refl _)] at this
        exact this
      clear HM
      go_wp2
      go_ret
      exact ⟨rfl, HM2.out, HB.out⟩

def gset (S : List ByteArray) (x : ByteArray) : Option Value := if hin S x = true then some (.agg #[]) else none

theorem gset_snoc (S : List ByteArray) (z x : ByteArray) : (if x = z then some (.agg #[]) else gset S x) = gset (S ++ [z]) x := by
  unfold gset
  by_cases h : x = z
  · subst h
    rw [if_pos rfl, if_pos ((hin_iff _ _).2 (by simp))]
  · rw [if_neg h]
    by_cases h2 : x ∈ S
    · rw [if_pos ((hin_iff _ _).2 h2), if_pos ((hin_iff _ _).2 (by simp [h2]))]
    · rw [if_neg ((hin_not _ _).2 h2), if_neg ((hin_not _ _).2 (by simp [h2, h]))]

set_option maxHeartbeats 400000 in
theorem pclone_any (S : ByteArray) (w : World) (hlen : Hid (Tsm S)) :
    Calls Tryz.prog 16 #[.string S] w fun e w' => e = .returned (.string S) ∧ Below w.heap.size w w' := by
  have Q : Hid _ := Sh.stringslite_Clone S w (by have := hlen.out; unfold Tsm at this; omega)
  clear hlen
  go_enter Tryz.func16, Tryz.ntmps16
  go_wp2_with fail
  refine Calls.mono Q.out ?_
  rintro e w1 ⟨rfl, hb⟩
  go_wp2
  go_ret
  exact ⟨rfl, hb⟩

theorem box_cell {W : World} {b : Nat} {v : Value} {t : TypeId} (h : W.heap[b]? = some (.cells #[v] t (0, 0))) : W.cell? ⟨b, 0, none⟩ = some v ∧ W.frozen? ⟨b, 0, none⟩ = false ∧ b < W.heap.size :=
  ⟨by simp [World.cell?, h], by simp [World.frozen?, h], (Array.getElem?_eq_some_iff.1 h).1⟩

theorem wpOp_list2 {P : Program} {ops : Array Oper} {Q : Exit → Act → World → Prop} {i : Nat} {K : Act → World → Prop} {a : Act} {w : World} {o : Oper} (ho : ops[i]? = some o)
    (h : ∀ Q' : Exit → Act → World → Prop, (∀ a w, K a w → Q' .normal a w) → (∀ c a w, Q (.panic c) a w → Q' (.panic c) a w) → wpList P ops Q' [o] a w) : wpOp P ops Q i K a w := by
  have h1 := h (fun e a w => match e with | .normal => K a w | e => Q e a w) (fun _ _ h => h) (fun _ _ _ h => h)
  unfold wpOp
  simp only [ho]
  simp only [wpList] at h1
  split
  · rename_i hw
    rw [if_pos hw] at h1
    refine h1.imp (fun h2 => ?_) (fun h2 => ⟨h2.1, h2.2⟩)
    unfold Oper.wp at *
    generalize (execOp a.eval o).run P w = r at *
    cases r with
    | ok n w' =>
      cases n <;> simp only [Oper.upon] at h2 ⊢ <;>
        first
          | exact h2
          | exact Calls.mono h2 (fun e w'' he => by cases e <;> exact he)
    | halt x w' => cases x <;> simp only [Oper.upon] at h2 ⊢ <;> exact h2
  · rename_i hw
    rw [if_neg hw] at h1
    exact h1

end Go.Proofs.YtcnjjhdmnagkgaaGreatDoor
