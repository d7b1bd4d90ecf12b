/- The program's own Visible. -/
import Derived.Test.YtnkknkijnpdapaaJVis
namespace Go.Proofs.Ytnkknkijnpdapaa
open Go.RowKit
set_option linter.unusedVariables false
set_option linter.unusedSimpArgs false

/-- The path itself may lead on like the others. -/
theorem rch_own {l : List Un} {p : ByteArray} {u : Un} (hu : hunit l p = some u) (x : ByteArray) : Rch (hpubs l) (p :: u.deps) x ↔ x = p ∨ Rch (hpubs l) u.deps x := by
  constructor
  · intro h
    refine h.least (P := fun x => x = p ∨ Rch (hpubs l) u.deps x) (fun y hy => ?_) (fun y hy z hz => ?_)
    · rcases List.mem_cons.1 hy with rfl | hy
      · exact .inl rfl
      · exact .inr (.seed hy)
    · rcases hy with rfl | hy
      · have := hpubs_sub y z hz
        rw [hdeps_of hu] at this
        exact .inr (.seed this)
      · exact .inr (.step hy hz)
  · rintro (rfl | h)
    · exact .seed (by simp)
    · exact h.mono (fun y hy => .seed (by simp [hy]))

theorem one_sw (w : World) (p : ByteArray) : Sw (w.alloc (.cells #[.string p] 9)) w.heap.size (.slice (some ⟨w.heap.size, 0, none⟩) 1 1) [p] := by
  refine ⟨by simp, .inr ⟨w.heap.size, 1, #[.string p], rfl, Nat.le_refl _, heap_alloc_new _ _, Nat.le_refl _, by unfold maxLen; omega, rfl, rfl⟩⟩

set_option maxRecDepth 10000 in
set_option maxHeartbeats 4000000 in
theorem pgvis_any {W : World} {a : Option Addr} {len cap : Nat} {us : List Um} (p : ByteArray) (hU : Hid (Ul W a len cap us)) (hfw : Hid (hfew us = true)) (hs : Hid (Usm us)) (hp : Hid (p.size ≤ maxLen)) :
    Calls Try.prog 14 #[.slice a len cap, .string p] W fun e W' => ∃ v, e = .returned v ∧ Sw W' W.heap.size v (hvis (us.map Um.un) p) ∧ Below W.heap.size W W' := by
  have hmf : ∀ (fn : Fn) (first cap : Array Value) (w : World), (Instr.makeFunc fn first cap).run Try.prog w = .ok (.func fn first cap) w := fun _ _ _ _ => rfl
  have QB : Hid _ := pby_any hU hs W (Below.refl _ _)
  cases hq : ug us p with
  | none =>
    have E : Hid (hvis (us.map Um.un) p = []) := hvis_none (ug_none hq)
    rw [E.out]
    have HL : Hid (∀ V, (∃ n, Mg V W.heap.size n (ug us)) → (Instr.lookup 52 (.map (some W.heap.size)) (.string p) true).run Try.prog V = .ok (.tuple #[.agg #[.string ⟨#[]⟩, .slice none 0 0, .slice none 0 0], .bool false]) V) := fun V hV => by
      obtain ⟨n, hM⟩ := hV
      have := hM.look Try.underlying52 (zeroUnit _) p hp.out true
      rw [hq] at this
      exact this
    clear hq hU hfw hs hp E
    go_enter Try.func14, Try.ntmps14
    go_wp2_with fail
    refine Calls.mono QB.out ?_
    rintro e w1 ⟨rfl, hM1, hb1⟩
    have hu := ub_new hM1
    have hlk := HL.out _ hu.map
    have HB1 : Hid _ := hb1
    clear hb1 hM1 hu QB
    go_wp2
    go_ret
    exact ⟨_, rfl, Sw.nil _ _, (HB1.out.alloc HB1.out.size _).alloc (by have := HB1.out.size; simp; omega) _⟩
  | some v =>
    obtain ⟨u, hum, hup, rfl, hun⟩ := ug_some hq
    obtain ⟨hr, hm⟩ := hvis_spec hun
    have HH : Hid _ := And.intro hr (fun x => (rch_own hun x).trans (hm x).symm)
    have HT : Hid (Tsm p) := Tsm_of_unit hs.out hum hup
    have HTd : Hid (∀ z ∈ u.deps, Tsm z) := (hs.out u hum).2
    have HSu : Hid (Sb W u.da u.deps.length u.dc u.deps) := (hU_at hU.out hum).1
    have hdl : u.deps.length ≤ 30 := by
      obtain ⟨j, hj⟩ := List.getElem?_of_mem hum
      exact ((hfew_of hfw.out).2 j u hj).1
    have HL : Hid (∀ V, (∃ n, Mg V W.heap.size n (ug us)) → (Instr.lookup 52 (.map (some W.heap.size)) (.string p) true).run Try.prog V = .ok (.tuple #[.agg #[.string u.path, .slice u.da u.deps.length u.dc, .slice u.pa u.pub.length u.pc], .bool true]) V) := fun V hV => by
      obtain ⟨n, hM⟩ := hV
      have := hM.look Try.underlying52 (zeroUnit _) p hp.out true
      rw [hq] at this
      exact this
    clear hq hp hr hm hup hum hun
    obtain ⟨up, uda, udc, ud, upa, upc, upb⟩ := u
    simp only [Um.un] at HL HTd HSu hdl HH
    go_enter Try.func14, Try.ntmps14
    go_wp2_with fail
    refine Calls.mono QB.out ?_
    rintro e w1 ⟨rfl, hM1, hb1⟩
    have hu := ub_new hM1
    have hlk := HL.out _ hu.map
    obtain ⟨w3, hw3⟩ : ∃ w3, (w1.alloc (.cells #[.map (some W.heap.size)] 52)).alloc (.cells #[.string up, .slice uda ud.length udc, .slice upa upb.length upc] 40) = w3 := ⟨_, rfl⟩
    have hsz : w3.heap.size = w1.heap.size + 1 + 1 := by rw [← hw3]; simp
    have hA : Below (w1.alloc (.cells #[.map (some W.heap.size)] 52)).heap.size (w1.alloc (.cells #[.map (some W.heap.size)] 52)) w3 := by rw [← hw3]; exact (Below.refl _ _).alloc (Nat.le_refl _) _
    have hA2 : Below w3.heap.size w3 (w3.alloc (.cells #[.string p] 9)) := (Below.refl _ _).alloc (Nat.le_refl _) _
    have hb3 : Below W.heap.size W w3 := (hb1.alloc hb1.size _).trans (hA.mono (by have := hb1.size; simp; omega))
    have hb4 : Below W.heap.size W (w3.alloc (.cells #[.string p] 9)) := hb3.trans (hA2.mono hb3.size)
    obtain ⟨v5, w5, hrun, hq5, hg5, _⟩ := run_append_sqs (Sq.of_own (one_sw w3 p)) 23 (HSu.out.below hb4) (by simp; omega) (by simp)
    have hB5 : Below w3.heap.size (w3.alloc (.cells #[.string p] 9)) w5 := (Below.refl _ _).grown hg5 (by simp) (fun k hk => by simp [Value.ownBlock] at hk; omega)
    have HB5 : Hid (Below W.heap.size W w5) := hb4.trans (hB5.mono hb3.size)
    have hu5 : Ub w5 w1.heap.size W.heap.size us := (hu.under hA).under (hA2.trans hB5)
    obtain ⟨xa, xc, rfl⟩ := hq5.slice
    have QR : Hid _ := preachW_any (l := us.map Um.un) (next := hpubs (us.map Um.un)) goin_pubs (leads_pubs hU hfw HB5 hu5) (fun q y hy => hdeps_tsm hs.out q y (hpubs_sub q y hy)) (lead_pubs _) (by have := (hfew_of hfw.out).1; show _ ≤ _; simp; omega) (by
      have h1 := flat_few (l := us.map Um.un) (f := fun u => hpubs (us.map Um.un) u.path) (fun u _ => hpubs_le30 hfw.out _)
      have h2 := (hfew_of hfw.out).1
      rw [List.length_map] at h1
      show _ ≤ _
      rw [List.length_append, List.length_append, List.length_singleton]
      omega) (Sb.of_sq hq5) (fun z hz => by
        rcases List.mem_append.1 hz with hz | hz
        · simp at hz; subst hz; exact HT.out
        · exact HTd.out z hz) (by simp)
    have c1 : w3.cell? ⟨w1.heap.size + 1, 1, none⟩ = some (.slice uda ud.length udc) := by
      have e1 : w1.heap.size + 1 = (w1.alloc (.cells #[.map (some W.heap.size)] 52)).heap.size := by simp
      rw [← hw3, e1, World.cell?_alloc_new]
      rfl
    have c2 : (w3.alloc (.cells #[.string p] 9)).cell? ⟨w1.heap.size + 1, 1, none⟩ = some (.slice uda ud.length udc) := (hA2.cell (by simp; omega)).trans c1
    rw [hsz, ← hw3] at hrun
    rw [← hw3] at c1 c2
    have HRN : Hid _ := hrun
    clear hb1 hM1 hu QB hA HL hU hfw hs hb3 hb4 hB5 hu5 hq5 hg5 hA2 hdl hrun hsz hw3
    go_wp2_with (at_builtin; refine wpList_append_run rfl _ _ rfl rfl rfl HRN.out ?_)
    refine Calls.mono QR.out ?_
    rintro e w6 ⟨v, ys, rfl, hs6, hris, hmem, hb6⟩
    have E : Hid (ys = hvis (us.map Um.un) p) := ris_ext _ _ hris HH.out.1 (fun x => (hmem x).trans (HH.out.2 x))
    have HS : Hid (Sw w6 W.heap.size v ys) := hs6.base HB5.out.size
    have HB6 : Hid (Below W.heap.size W w6) := HB5.out.trans (hb6.mono HB5.out.size)
    clear hs6 hris hmem hb6 QR
    go_wp2
    go_ret
    exact ⟨v, rfl, (by rw [← E.out]; exact HS.out), HB6.out⟩

end Go.Proofs.Ytnkknkijnpdapaa
