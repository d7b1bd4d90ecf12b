/- The program's own Closure and Visible. -/
import Derived.Test.YtnkknkijnpdapaaJRe2
import Derived.Test.YtnkknkijnpdapaaJPub
import Derived.Test.YtnkknkijnpdapaaHVis2
namespace Go.Proofs.Ytnkknkijnpdapaa
open Go.RowKit
set_option linter.unusedVariables false
set_option linter.unusedSimpArgs false

theorem Sb.of_sq {w : World} {base : Nat} {a : Option Addr} {n c : Nat} {zs : List ByteArray} (h : Sq w base (.slice a n c) zs) : Sb w a n c zs := by
  rcases h with ⟨he, rfl⟩ | ⟨g, o, cap, cur, he, hg, hh, h1, h2, h3, h4⟩
  · simp only [Value.slice.injEq] at he
    obtain ⟨rfl, rfl, rfl⟩ := he
    exact ⟨rfl, by simp, Nat.le_refl _, fun _ => rfl, fun h => absurd h (by simp)⟩
  · simp only [Value.slice.injEq] at he
    obtain ⟨rfl, rfl, rfl⟩ := he
    refine ⟨rfl, by unfold maxLen at h3; omega, h1, (fun h => by simp at h), fun _ => ⟨g, o, rfl, (Array.getElem?_eq_some_iff.1 hh).1, fun i z hi => ?_⟩⟩
    have hil : i < zs.length := (List.getElem?_eq_some_iff.1 hi).1
    have h5 : ((cur.toList.drop o).take zs.length)[i]? = (zs.map Value.string)[i]? := by rw [h4]
    rw [List.getElem?_take_of_lt hil, List.getElem?_drop, List.getElem?_map, hi] at h5
    have h6 : cur[o + i]? = some (.string z) := by simpa using h5
    simp [World.cell?, hh, h6]

/-- The units' box, and the map that it holds. -/
structure Ub (W : World) (ub um : Nat) (us : List Um) : Prop where
  box : W.heap[ub]? = some (.cells #[.map (some um)] 52 (0, 0))
  map : ∃ n, Mg W um n (ug us)

theorem Ub.under {W V : World} {ub um : Nat} {us : List Um} (h : Ub W ub um us) (hb : Below W.heap.size W V) : Ub V ub um us := by
  obtain ⟨n, hM⟩ := h.map
  exact ⟨(hb.block _ (Array.getElem?_eq_some_iff.1 h.box).1).trans h.box, n, hM.below hb hM.lt⟩

theorem hdeps_none {l : List Un} {p : ByteArray} (h : hunit l p = none) : hdeps l p = [] := by unfold hdeps; rw [h]

theorem hpubs_none {l : List Un} {p : ByteArray} (h : hunit l p = none) : hpubs l p = [] := by unfold hpubs; rw [h]

theorem hpubs_of {l : List Un} {p : ByteArray} {u : Un} (h : hunit l p = some u) : hpubs l p = u.pub.flatMap (upub1 u.deps) := by unfold hpubs; rw [h]; exact upubs_eq u

theorem hU_at {w : World} {a : Option Addr} {len cap : Nat} {us : List Um} (hU : Ul w a len cap us) {u : Um} (hu : u ∈ us) : Sb w u.da u.deps.length u.dc u.deps ∧ Sn w u.pa u.pub.length u.pc u.pub := by
  obtain ⟨j, hj⟩ := List.getElem?_of_mem hu
  exact hU.hall j u hj

set_option maxHeartbeats 1000000 in
theorem leads_deps {w W : World} {a : Option Addr} {len cap ub um : Nat} {us : List Um} (hU : Hid (Ul w a len cap us)) (hB : Hid (Below w.heap.size w W)) (hub : Hid (Ub W ub um us)) : Leads W W.heap.size 30 ub (hdeps (us.map Um.un)) := by
  intro p V hp hV
  have hu := hub.out.under hV
  obtain ⟨x1, x2, x3⟩ := box_cell hu.box
  obtain ⟨n, hM⟩ := hu.map
  have hlk := hM.look Try.underlying52 (zeroUnit _) p hp.out.key false
  cases hq : ug us p with
  | none =>
    rw [hq] at hlk
    simp only [mlook] at hlk
    have hf : (Instr.field 40 (.agg #[.string ⟨#[]⟩, .slice none 0 0, .slice none 0 0]) 1).run Try.prog V = .ok (.slice none 0 0) V := by kernel_rfl
    have E : Hid (hdeps (us.map Um.un) p = []) := hdeps_none (ug_none hq)
    clear hM hu hq hub hB hU
    go_enter Try.func30, Try.ntmps30
    go_wp2
    go_ret
    exact ⟨none, 0, 0, rfl, (by show Sb _ _ _ _ _; rw [E.out]; exact ⟨rfl, by simp, Nat.le_refl _, fun _ => rfl, fun h => absurd h (by simp)⟩), Below.refl _ _⟩
  | some v =>
    rw [hq] at hlk
    obtain ⟨u, hum, hup, rfl, hun⟩ := ug_some hq
    clear hup
    simp only [mlook, Um.val] at hlk
    have hf : (Instr.field 40 (.agg #[.string u.path, .slice u.da u.deps.length u.dc, .slice u.pa u.pub.length u.pc]) 1).run Try.prog V = .ok (.slice u.da u.deps.length u.dc) V := by kernel_rfl
    have E : Hid (hdeps (us.map Um.un) p = u.deps) := hdeps_of hun
    have HS : Hid (Sb V u.da u.deps.length u.dc u.deps) := (hU_at hU.out hum).1.below (hB.out.trans (hV.mono hB.out.size))
    clear hM hu hq hub hB hU hun hum
    obtain ⟨up, uda, udc, ud, upa, upc, upb⟩ := u
    simp only at hlk hf E HS
    go_enter Try.func30, Try.ntmps30
    go_wp2
    go_ret
    exact ⟨uda, ud.length, udc, rfl, (by rw [E.out]; exact HS), Below.refl _ _⟩

set_option maxHeartbeats 1000000 in
theorem leads_pubs {w W : World} {a : Option Addr} {len cap ub um : Nat} {us : List Um} (hU : Hid (Ul w a len cap us)) (hfw : Hid (hfew us = true)) (hB : Hid (Below w.heap.size w W)) (hub : Hid (Ub W ub um us)) : Leads W W.heap.size 28 ub (hpubs (us.map Um.un)) := by
  intro p V hp hV
  have hu := hub.out.under hV
  obtain ⟨x1, x2, x3⟩ := box_cell hu.box
  obtain ⟨n, hM⟩ := hu.map
  have hlk := hM.look Try.underlying52 (zeroUnit _) p hp.out.key false
  cases hq : ug us p with
  | none =>
    rw [hq] at hlk
    simp only [mlook] at hlk
    have E : Hid (hpubs (us.map Um.un) p = []) := hpubs_none (ug_none hq)
    have Q : Hid _ := ppub_any (w := V) ⟨#[]⟩ none none 0 0 [] [] ⟨rfl, by simp, Nat.le_refl _, fun _ => rfl, fun h => absurd h (by simp)⟩ ⟨rfl, by simp, Nat.le_refl _, fun _ => rfl, (fun z hz => by cases hz), fun h => absurd h (by simp)⟩ (by simp) V (Below.refl _ _)
    simp only [List.length_nil] at Q
    clear hM hu hq hub hB hU
    go_enter Try.func28, Try.ntmps28
    go_wp2_with fail
    refine Calls.mono Q.out ?_
    rintro e w1 ⟨v, rfl, hs, hb⟩
    obtain ⟨sa, sc, rfl⟩ := hs.slice
    have HS : Hid _ := Sb.of_own hs
    have HB : Hid _ := hb
    clear hs hb Q
    go_wp2
    go_ret
    exact ⟨sa, _, sc, rfl, (by rw [E.out]; exact HS), HB.out⟩
  | some v =>
    rw [hq] at hlk
    obtain ⟨u, hum, hup, rfl, hun⟩ := ug_some hq
    clear hup
    simp only [mlook, Um.val] at hlk
    have E : Hid (hpubs (us.map Um.un) p = u.pub.flatMap (upub1 u.deps)) := hpubs_of hun
    have hl : u.pub.length ≤ 1000 := by
      obtain ⟨j, hj⟩ := List.getElem?_of_mem hum
      have := ((hfew_of hfw.out).2 j u hj).2
      omega
    have hS1 := (hU_at hU.out hum).1
    have hS2 := (hU_at hU.out hum).2
    have hBV : Below w.heap.size w V := hB.out.trans (hV.mono hB.out.size)
    clear hM hu hq hub hB hU hun hum
    obtain ⟨up, uda, udc, ud, upa, upc, upb⟩ := u
    simp only at hlk E hS1 hS2 hl
    have Q : Hid (Calls Try.prog 29 #[.agg #[.string up, .slice uda ud.length udc, .slice upa upb.length upc]] V fun e W' => ∃ v, e = .returned v ∧ Sw W' V.heap.size v (upb.flatMap (upub1 ud)) ∧ Below V.heap.size V W') := ppub_any up uda upa udc upc ud upb hS1 hS2 hl V hBV
    clear hS1 hS2 hBV hl
    generalize upb.flatMap (upub1 ud) = L at Q E
    go_enter Try.func28, Try.ntmps28
    go_wp2_with fail
    refine Calls.mono Q.out ?_
    rintro e w1 ⟨v, rfl, hs, hb⟩
    obtain ⟨sa, sc, rfl⟩ := hs.slice
    have HS : Hid (Sb w1 sa L.length sc L) := Sb.of_own hs
    have HB : Hid _ := hb
    clear hs hb Q
    go_wp2
    go_ret
    exact ⟨sa, L.length, sc, rfl, (by rw [E.out]; exact HS), HB.out⟩

theorem flat_few {l : List Un} {f : Un → List ByteArray} (h : ∀ u ∈ l, (f u).length ≤ 30) : (l.flatMap f).length ≤ l.length * 30 := by
  induction l with
  | nil => simp
  | cons u l ih =>
    have h1 := h u (by simp)
    have h2 := ih (fun v hv => h v (by simp [hv]))
    simp only [List.flatMap_cons, List.length_append, List.length_cons]
    omega

theorem hdeps_le30 {us : List Um} (hf : hfew us = true) (p : ByteArray) : (hdeps (us.map Um.un) p).length ≤ 30 := by
  unfold hdeps
  cases h : hunit (us.map Um.un) p with
  | none => simp
  | some u =>
    obtain ⟨m, hm, rfl⟩ := List.mem_map.1 (hunit_some h).1
    obtain ⟨j, hj⟩ := List.getElem?_of_mem hm
    exact ((hfew_of hf).2 j m hj).1

theorem hpubs_le30 {us : List Um} (hf : hfew us = true) (p : ByteArray) : (hpubs (us.map Um.un) p).length ≤ 30 := by
  cases h : hunit (us.map Um.un) p with
  | none => rw [hpubs_none h]; simp
  | some u =>
    rw [hpubs_of h]
    obtain ⟨m, hm, rfl⟩ := List.mem_map.1 (hunit_some h).1
    obtain ⟨j, hj⟩ := List.getElem?_of_mem hm
    exact Nat.le_trans (flat_len _ _) ((hfew_of hf).2 j m hj).2

theorem hdeps_tsm {us : List Um} (hs : Usm us) (p : ByteArray) : ∀ y ∈ hdeps (us.map Um.un) p, Tsm y := by
  intro y hy
  unfold hdeps at hy
  cases h : hunit (us.map Um.un) p with
  | none => rw [h] at hy; simp at hy
  | some u =>
    rw [h] at hy
    obtain ⟨m, hm, rfl⟩ := List.mem_map.1 (hunit_some h).1
    exact (hs m hm).2 y hy

theorem hpubs_sub {l : List Un} (p : ByteArray) : ∀ y ∈ hpubs l p, y ∈ hdeps l p := by
  intro y hy
  cases h : hunit l p with
  | none => rw [hpubs_none h] at hy; simp at hy
  | some u =>
    rw [hpubs_of h] at hy
    rw [hdeps_of h]
    obtain ⟨n, _, hn⟩ := List.mem_flatMap.1 hy
    unfold upub1 at hn
    split at hn
    · rename_i hq
      simp only [List.mem_cons, List.not_mem_nil, or_false] at hn
      subst hn
      have : n.toNat < u.deps.length := by omega
      rw [List.getD_eq_getElem?_getD, List.getElem?_eq_getElem this]
      exact List.getElem_mem this
    · simp at hn

/-- What the closure over a box of units needs. -/
theorem goin_deps : Goin 30 := enters_of Try.func30 (by kernel_rfl) rfl

theorem goin_pubs : Goin 28 := enters_of Try.func28 (by kernel_rfl) rfl

theorem ub_new {W w1 : World} {us : List Um} (hM : ∃ n, Mg w1 W.heap.size n (ug us)) : Ub (w1.alloc (.cells #[.map (some W.heap.size)] 52)) w1.heap.size W.heap.size us := by
  obtain ⟨n, hM⟩ := hM
  exact ⟨heap_alloc_new _ _, n, hM.kept (World.grownBy_alloc _ _ none) (by simp)⟩

theorem one_sb (w : World) (p : ByteArray) : Sb (w.alloc (.cells #[.string p] 9)) (some ⟨w.heap.size, 0, none⟩) 1 1 [p] := by
  refine ⟨rfl, by simp, Nat.le_refl _, (fun h => by simp at h), fun _ => ⟨w.heap.size, 0, rfl, by simp, fun i z hi => ?_⟩⟩
  match i, hi with
  | 0, hi => simp at hi; subst hi; exact text_cell w p

theorem Tsm_of_unit {us : List Um} (hs : Usm us) {u : Um} (hu : u ∈ us) {p : ByteArray} (h : u.path = p) : Tsm p := by rw [← h]; exact (hs u hu).1

set_option maxRecDepth 10000 in
set_option maxHeartbeats 4000000 in
theorem pgclo_any {W : World} {a : Option Addr} {len cap : Nat} {us : List Um} (p : ByteArray) (hU : Hid (Ul W a len cap us)) (hfw : Hid (hfew us = true)) (hs : Hid (Usm us)) (hp : Hid (p.size ≤ maxLen)) :
    Calls Try.prog 16 #[.slice a len cap, .string p] W fun e W' => ∃ v, e = .returned v ∧ Sw W' W.heap.size v (hclo (us.map Um.un) p) ∧ Below W.heap.size W W' := by
  have hmf : ∀ (fn : Fn) (first cap : Array Value) (w : World), (Instr.makeFunc fn first cap).run Try.prog w = .ok (.func fn first cap) w := fun _ _ _ _ => rfl
  have QB : Hid _ := pby_any hU hs W (Below.refl _ _)
  cases hq : ug us p with
  | none =>
    have E : Hid (hclo (us.map Um.un) p = []) := hclo_none (ug_none hq)
    rw [E.out]
    have HL : Hid (∀ V, (∃ n, Mg V W.heap.size n (ug us)) → (Instr.lookup 52 (.map (some W.heap.size)) (.string p) true).run Try.prog V = .ok (.tuple #[.agg #[.string ⟨#[]⟩, .slice none 0 0, .slice none 0 0], .bool false]) V) := fun V hV => by
      obtain ⟨n, hM⟩ := hV
      have := hM.look Try.underlying52 (zeroUnit _) p hp.out true
      rw [hq] at this
      exact this
    clear hq hU hfw hs hp E
    go_enter Try.func16, Try.ntmps16
    go_wp2_with fail
    refine Calls.mono QB.out ?_
    rintro e w1 ⟨rfl, hM1, hb1⟩
    have hu := ub_new hM1
    have hlk := HL.out _ hu.map
    have HB1 : Hid _ := hb1
    clear hb1 hM1 hu QB
    go_wp2
    go_ret
    exact ⟨_, rfl, Sw.nil _ _, (HB1.out.alloc HB1.out.size _).alloc (by have := HB1.out.size; simp; omega) _⟩
  | some v =>
    obtain ⟨u, hum, hup, rfl, hun⟩ := ug_some hq
    obtain ⟨hr, hm⟩ := hclo_spec hun
    have HH : Hid _ := And.intro hr hm
    have HT : Hid (Tsm p) := Tsm_of_unit hs.out hum hup
    have HL : Hid (∀ V, (∃ n, Mg V W.heap.size n (ug us)) → (Instr.lookup 52 (.map (some W.heap.size)) (.string p) true).run Try.prog V = .ok (.tuple #[.agg #[.string u.path, .slice u.da u.deps.length u.dc, .slice u.pa u.pub.length u.pc], .bool true]) V) := fun V hV => by
      obtain ⟨n, hM⟩ := hV
      have := hM.look Try.underlying52 (zeroUnit _) p hp.out true
      rw [hq] at this
      exact this
    clear hq hp hr hm hup hum hun
    obtain ⟨up, uda, udc, ud, upa, upc, upb⟩ := u
    simp only at HL
    go_enter Try.func16, Try.ntmps16
    go_wp2_with fail
    refine Calls.mono QB.out ?_
    rintro e w1 ⟨rfl, hM1, hb1⟩
    have hu := ub_new hM1
    have hlk := HL.out _ hu.map
    have HB1 : Hid (Below W.heap.size W w1) := hb1
    have hA : Below (w1.alloc (.cells #[.map (some W.heap.size)] 52)).heap.size (w1.alloc (.cells #[.map (some W.heap.size)] 52)) (((w1.alloc (.cells #[.map (some W.heap.size)] 52)).alloc (.cells #[.string up, .slice uda ud.length udc, .slice upa upb.length upc] 40)).alloc (.cells #[.string p] 9)) := ((Below.refl _ _).alloc (Nat.le_refl _) _).alloc (by simp) _
    have HBW : Hid (Below W.heap.size W (((w1.alloc (.cells #[.map (some W.heap.size)] 52)).alloc (.cells #[.string up, .slice uda ud.length udc, .slice upa upb.length upc] 40)).alloc (.cells #[.string p] 9))) := (hb1.alloc hb1.size _).trans (hA.mono (by have := hb1.size; simp; omega))
    have QR : Hid _ := preachW_any (l := us.map Um.un) (next := hdeps (us.map Um.un)) goin_deps (leads_deps hU HBW (hu.under hA)) (hdeps_tsm hs.out) (lead_deps _) (by have := (hfew_of hfw.out).1; show _ ≤ _; simp; omega) (by
      have h1 := flat_few (l := us.map Um.un) (f := fun u => hdeps (us.map Um.un) u.path) (fun u _ => hdeps_le30 hfw.out _)
      have h2 := (hfew_of hfw.out).1
      rw [List.length_map] at h1
      show _ ≤ _
      rw [List.length_append, List.length_singleton]
      omega) (one_sb ((w1.alloc (.cells #[.map (some W.heap.size)] 52)).alloc (.cells #[.string up, .slice uda ud.length udc, .slice upa upb.length upc] 40)) p) (fun z hz => by simp at hz; subst hz; exact HT.out) (by omega)
    clear hb1 hM1 hu QB hA HL hU hfw hs
    go_wp2_with fail
    have hsz : ((w1.alloc (.cells #[.map (some W.heap.size)] 52)).alloc (.cells #[.string up, .slice uda ud.length udc, .slice upa upb.length upc] 40)).heap.size = w1.heap.size + 1 + 1 := by simp
    rw [hsz] at QR
    refine Calls.mono QR.out ?_
    rintro e w5 ⟨v, ys, rfl, hs5, hris, hmem, hb5⟩
    have E : Hid (ys = hclo (us.map Um.un) p) := ris_ext _ _ hris HH.out.1 (fun x => (hmem x).trans (HH.out.2 x).symm)
    have HS : Hid (Sw w5 W.heap.size v ys) := hs5.base (by have := HBW.out.size; omega)
    have HB5 : Hid (Below W.heap.size W w5) := HBW.out.trans (hb5.mono HBW.out.size)
    clear hs5 hris hmem hb5 QR
    go_wp2
    go_ret
    exact ⟨v, rfl, (by rw [← E.out]; exact HS.out), HB5.out⟩

end Go.Proofs.Ytnkknkijnpdapaa
