/- The law's own 'awake' of layer 10: the chapter's example holds. -/
import Derived.Test.YtnkknkijnpdapaaJOrd
import Derived.Test.YtnkknkijnpdapaaJVis2
import Derived.Test.YtnkknkijnpdapaaHOrder
import Derived.Test.YtnkknkijnpdapaaHClo
namespace Go.Proofs.Ytnkknkijnpdapaa
open Go.RowKit
set_option linter.unusedVariables false
set_option linter.unusedSimpArgs false

def hexU (h : Nat) : List Um := [⟨⟨#[97]⟩, some ⟨h, 0, none⟩, 2, [⟨#[98]⟩, ⟨#[99]⟩], none, 0, []⟩, ⟨⟨#[98]⟩, some ⟨h + 1, 0, none⟩, 1, [⟨#[99]⟩], none, 0, []⟩, ⟨⟨#[99]⟩, none, 0, [], none, 0, []⟩]

theorem hexU_few (h : Nat) : hfew (hexU h) = true := rfl

theorem hexU_sm (h : Nat) : Usm (hexU h) := by
  intro u hu
  simp only [hexU, List.mem_cons, List.not_mem_nil, or_false] at hu
  rcases hu with rfl | rfl | rfl
  · exact ⟨by show (1 : Nat) ≤ _; omega, fun d hd => by simp only [List.mem_cons, List.not_mem_nil, or_false] at hd; rcases hd with rfl | rfl <;> (show (1 : Nat) ≤ _; omega)⟩
  · exact ⟨by show (1 : Nat) ≤ _; omega, fun d hd => by simp only [List.mem_cons, List.not_mem_nil, or_false] at hd; rcases hd with rfl; show (1 : Nat) ≤ _; omega⟩
  · exact ⟨by show (1 : Nat) ≤ _; omega, fun d hd => by simp at hd⟩

theorem hex_sm : ∀ z ∈ [(⟨#[97]⟩ : ByteArray)], Tsm z := fun z hz => by
  simp only [List.mem_cons, List.not_mem_nil, or_false] at hz
  subst hz
  show (1 : Nat) ≤ _
  omega

theorem hexU_ord (h : Nat) : hord ((hexU h).map Um.un) [⟨#[97]⟩] = ([⟨#[99]⟩, ⟨#[98]⟩, ⟨#[97]⟩], ⟨#[]⟩, 0) := by
  show hord [⟨⟨#[97]⟩, [⟨#[98]⟩, ⟨#[99]⟩], []⟩, ⟨⟨#[98]⟩, [⟨#[99]⟩], []⟩, ⟨⟨#[99]⟩, [], []⟩] [⟨#[97]⟩] = _
  decide

/-- The world in which the example lies. -/
def hexW (w : World) : World := (((w.alloc (.cells #[.string ⟨#[98]⟩, .string ⟨#[99]⟩] 9)).alloc (.cells #[.string ⟨#[99]⟩] 9)).alloc (.cells #[.string ⟨#[97]⟩, .slice (some ⟨w.heap.size, 0, none⟩) 2 2, .slice none 0 0, .string ⟨#[98]⟩, .slice (some ⟨w.heap.size + 1, 0, none⟩) 1 1, .slice none 0 0, .string ⟨#[99]⟩, .slice none 0 0, .slice none 0 0] 40)).alloc (.cells #[.string ⟨#[97]⟩] 9)

theorem hexW_below (w : World) : Below w.heap.size w (hexW w) :=
  ((((Below.refl _ _).alloc (Nat.le_refl _) _).alloc (by simp only [World.size_alloc]; omega) _).alloc (by simp only [World.size_alloc]; omega) _).alloc (by simp only [World.size_alloc]; omega) _

theorem hex_blk (w : World) : (hexW w).heap[w.heap.size]? = some (.cells #[.string ⟨#[98]⟩, .string ⟨#[99]⟩] 9) ∧ (hexW w).heap[w.heap.size + 1]? = some (.cells #[.string ⟨#[99]⟩] 9) ∧
    (hexW w).heap[w.heap.size + 2]? = some (.cells #[.string ⟨#[97]⟩, .slice (some ⟨w.heap.size, 0, none⟩) 2 2, .slice none 0 0, .string ⟨#[98]⟩, .slice (some ⟨w.heap.size + 1, 0, none⟩) 1 1, .slice none 0 0, .string ⟨#[99]⟩, .slice none 0 0, .slice none 0 0] 40) ∧ (hexW w).heap[w.heap.size + 3]? = some (.cells #[.string ⟨#[97]⟩] 9) := by
  have n1 : ∀ (V : World) (o : Obj) (k : Nat), k = V.heap.size → (V.alloc o).heap[k]? = some o := fun V o k h => by subst h; exact heap_alloc_new _ _
  have n2 : ∀ (V : World) (o : Obj) (k : Nat), k < V.heap.size → (V.alloc o).heap[k]? = V.heap[k]? := fun V o k h => heap_alloc_old V o h
  unfold hexW
  refine ⟨?_, ?_, ?_, ?_⟩
  · rw [n2 _ _ _ (by simp only [World.size_alloc]; omega), n2 _ _ _ (by simp only [World.size_alloc]; omega), n2 _ _ _ (by simp only [World.size_alloc]; omega)]
    exact n1 _ _ _ rfl
  · rw [n2 _ _ _ (by simp only [World.size_alloc]; omega), n2 _ _ _ (by simp only [World.size_alloc]; omega)]
    exact n1 _ _ _ (by simp)
  · rw [n2 _ _ _ (by simp only [World.size_alloc]; omega)]
    exact n1 _ _ _ (by simp)
  · exact n1 _ _ _ (by simp)

theorem blk_at {w : World} {g : Nat} {cs : Array Value} {t : TypeId} (h : w.heap[g]? = some (.cells cs t)) (j : Nat) (v : Value) (hj : cs[j]? = some v) : w.cell? ⟨g, j, none⟩ = some v := by
  simp only [World.cell?, h]
  simpa using hj

theorem blk_in {w : World} {g : Nat} {o : Obj} (h : w.heap[g]? = some o) : g < w.heap.size := (Array.getElem?_eq_some_iff.1 h).1

theorem hex_ul (w : World) : Ul (hexW w) (some ⟨w.heap.size + 2, 0, none⟩) 3 3 (hexU w.heap.size) := by
  obtain ⟨b0, b1, b2, b3⟩ := hex_blk w
  refine ⟨rfl, by omega, Nat.le_refl _, (fun e => by cases e), fun _ => ⟨w.heap.size + 2, 0, rfl, blk_in b2, fun i u hi j v hj => blk_at b2 _ _ ?_⟩, fun i u hi => ?_⟩
  · match i, hi with
    | 0, hi =>
      cases hi
      match j, hj with
      | 0, hj | 1, hj | 2, hj => exact hj
    | 1, hi =>
      cases hi
      match j, hj with
      | 0, hj | 1, hj | 2, hj => exact hj
    | 2, hi =>
      cases hi
      match j, hj with
      | 0, hj | 1, hj | 2, hj => exact hj
  · match i, hi with
    | 0, hi =>
      cases hi
      refine ⟨⟨rfl, by simp, by simp, (fun e => by cases e), fun _ => ⟨_, 0, rfl, blk_in b0, fun i z hz => blk_at b0 _ _ ?_⟩⟩, ⟨rfl, by simp, by simp, fun _ => rfl, (fun z hz => by cases hz), fun h => absurd h (by simp)⟩⟩
      match i, hz with
      | 0, hz | 1, hz => cases hz; rfl
    | 1, hi =>
      cases hi
      refine ⟨⟨rfl, by simp, by simp, (fun e => by cases e), fun _ => ⟨_, 0, rfl, blk_in b1, fun i z hz => blk_at b1 _ _ ?_⟩⟩, ⟨rfl, by simp, by simp, fun _ => rfl, (fun z hz => by cases hz), fun h => absurd h (by simp)⟩⟩
      match i, hz with
      | 0, hz => cases hz; rfl
    | 2, hi =>
      cases hi
      exact ⟨⟨rfl, by simp, by simp, fun _ => rfl, fun h => absurd h (by simp)⟩, ⟨rfl, by simp, by simp, fun _ => rfl, (fun z hz => by cases hz), fun h => absurd h (by simp)⟩⟩

theorem hex_asked (w : World) : Sb (hexW w) (some ⟨w.heap.size + 3, 0, none⟩) 1 1 [⟨#[97]⟩] := by
  obtain ⟨b0, b1, b2, b3⟩ := hex_blk w
  refine ⟨rfl, by omega, Nat.le_refl _, (fun e => by cases e), fun _ => ⟨_, 0, rfl, blk_in b3, fun i z hz => blk_at b3 _ _ ?_⟩⟩
  match i, hz with
  | 0, hz => cases hz; rfl

set_option maxRecDepth 10000 in
set_option maxHeartbeats 1000000 in
theorem hawake_any (w : World) : Calls Try.prog 9 #[] w fun e w' => e = .returned (.bool true) ∧ Below w.heap.size w w' := by
  have q := pgorder_any (hex_ul w) (hex_asked w) (hexU_few _) (by omega) (hexU_sm _) hex_sm
  rw [hexU_ord] at q
  unfold hexW at q
  have Q : Hid _ := q
  have HB : Hid (Below w.heap.size w (hexW w)) := hexW_below w
  unfold hexW at HB
  clear q
  go_enter Try.func9, Try.ntmps9
  go_wp2_with fail
  refine Calls.mono Q.out ?_
  rintro e w1 ⟨v, rfl, hs, hb⟩
  have H2 : Hid (Below w.heap.size w w1) := HB.out.trans (hb.mono HB.out.size)
  obtain ⟨va, vc, hv⟩ := hs.slice
  subst hv
  obtain ⟨g, o, e1, hlt, hc⟩ := (Sb.of_own hs).hmem (by decide)
  subst e1
  have x0 : w1.cell? ⟨g, o, none⟩ = some (.string ⟨#[99]⟩) := hc 0 _ rfl
  have x1 := hc 1 _ rfl
  have x2 := hc 2 _ rfl
  clear hs hb hc Q HB
  go_wp2
  go_ret
  exact ⟨rfl, H2.out⟩

end Go.Proofs.Ytnkknkijnpdapaa
