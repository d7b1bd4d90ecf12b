/- The program's own lay, whole. -/
import Derived.Test.YtnkknkijnpdapaaJLay
import Derived.Test.YtnkknkijnpdapaaJEach
import Derived.Laws.EntriesVeiled
namespace Go.Proofs.Ytnkknkijnpdapaa
open Go.RowKit
set_option linter.unusedVariables false
set_option linter.unusedSimpArgs false

theorem Ly.start {W w1 : World} {us : List Um} (hM : ∃ n, Mg w1 (W.heap.size + 2) n (ug us)) (hb : Below (W.heap.size + 2) ((W.alloc (.cells #[.slice none 0 0] 23)).alloc (.cells #[.string ⟨#[]⟩, .int .i64 0] 44)) w1) :
    Ly W ((((w1.alloc (.cells #[.map (some (W.heap.size + 2))] 52)).alloc (.map #[] 0)).alloc (.cells #[.map (some (w1.heap.size + 1))] 60)).alloc (.cells #[.func (.func 33) #[] #[.pointer (some ⟨w1.heap.size + 2, 0, none⟩), .pointer (some ⟨w1.heap.size + 3, 0, none⟩), .pointer (some ⟨w1.heap.size, 0, none⟩), .pointer (some ⟨W.heap.size, 0, none⟩)]] 61)) W.heap.size w1.heap.size us [] (gmk [] []) := by
  obtain ⟨n, hM⟩ := hM
  have hlt := hM.lt
  obtain ⟨A1, hA1⟩ : ∃ A1, w1.alloc (.cells #[.map (some (W.heap.size + 2))] 52) = A1 := ⟨_, rfl⟩
  obtain ⟨A2, hA2⟩ : ∃ A2, A1.alloc (.map #[] 0) = A2 := ⟨_, rfl⟩
  obtain ⟨A3, hA3⟩ : ∃ A3, A2.alloc (.cells #[.map (some (w1.heap.size + 1))] 60) = A3 := ⟨_, rfl⟩
  obtain ⟨A4, hA4⟩ : ∃ A4, A3.alloc (.cells #[.func (.func 33) #[] #[.pointer (some ⟨w1.heap.size + 2, 0, none⟩), .pointer (some ⟨w1.heap.size + 3, 0, none⟩), .pointer (some ⟨w1.heap.size, 0, none⟩), .pointer (some ⟨W.heap.size, 0, none⟩)]] 61) = A4 := ⟨_, rfl⟩
  rw [hA1, hA2, hA3, hA4]
  have s1 : A1.heap.size = w1.heap.size + 1 := by rw [← hA1]; simp
  have s2 : A2.heap.size = w1.heap.size + 2 := by rw [← hA2]; simp [s1]
  have s3 : A3.heap.size = w1.heap.size + 3 := by rw [← hA3]; simp [s2]
  have b1 : Below w1.heap.size w1 A1 := by rw [← hA1]; exact (Below.refl _ _).alloc (Nat.le_refl _) _
  have b2 : Below A1.heap.size A1 A2 := by rw [← hA2]; exact (Below.refl _ _).alloc (Nat.le_refl _) _
  have b3 : Below A2.heap.size A2 A3 := by rw [← hA3]; exact (Below.refl _ _).alloc (Nat.le_refl _) _
  have b4 : Below A3.heap.size A3 A4 := by rw [← hA4]; exact (Below.refl _ _).alloc (Nat.le_refl _) _
  have n1 : A1.heap[w1.heap.size]? = some (.cells #[.map (some (W.heap.size + 2))] 52 (0, 0)) := by rw [← hA1]; exact heap_alloc_new _ _
  have n2 : Mg A2 (w1.heap.size + 1) 0 (fun _ => none) := by rw [← hA2, ← s1]; exact Mg.made A1
  have n3 : A3.heap[w1.heap.size + 2]? = some (.cells #[.map (some (w1.heap.size + 1))] 60 (0, 0)) := by rw [← hA3, ← s2]; exact heap_alloc_new _ _
  have n4 : A4.heap[w1.heap.size + 3]? = some (.cells #[.func (.func 33) #[] #[.pointer (some ⟨w1.heap.size + 2, 0, none⟩), .pointer (some ⟨w1.heap.size + 3, 0, none⟩), .pointer (some ⟨w1.heap.size, 0, none⟩), .pointer (some ⟨W.heap.size, 0, none⟩)]] 61 (0, 0)) := by rw [← hA4, ← s3]; exact heap_alloc_new _ _
  have b34 : Below A2.heap.size A2 A4 := b3.trans (b4.mono b3.size)
  have b24 : Below A1.heap.size A1 A4 := b2.trans (b34.mono b2.size)
  have b14 : Below w1.heap.size w1 A4 := b1.trans (b24.mono b1.size)
  have bW : Below W.heap.size W A4 := (((Below.refl _ W).alloc (Nat.le_refl _) _).alloc (by simp) _).trans ((hb.mono (by omega)).trans (b14.mono (by omega)))
  have g0 : w1.heap[W.heap.size]? = some (.cells #[.slice none 0 0] 23 (0, 0)) := by
    rw [hb.block _ (by omega), Below.heap_alloc _ _ _ (by simp)]
    exact heap_alloc_new _ _
  have g1 : w1.heap[W.heap.size + 1]? = some (.cells #[.string ⟨#[]⟩, .int .i64 0] 44 (0, 0)) := by
    rw [hb.block _ (by omega)]
    have := heap_alloc_new (W.alloc (.cells #[.slice none 0 0] 23)) (.cells #[.string ⟨#[]⟩, .int .i64 0] 44)
    simpa using this
  exact ⟨⟨_, (b14.block _ (by omega)).trans g0, Sw.nil _ _⟩, (b14.block _ (by omega)).trans g1, ⟨n, hM.below b14 (by omega)⟩, (b24.block _ (by omega)).trans n1, ⟨0, (n2.below b34 (by omega)).congr (fun x => by simp [gmk, hin])⟩, (b4.block _ (by omega)).trans n3, n4, bW, Nat.le_refl _, by omega⟩

theorem lay_res {tmps : Array Value} {V : World} {g : Nat} {vo x y : Value} (h4 : tmps[4]?.getD undef = .pointer (some ⟨g, 0, none⟩)) (h5 : tmps[5]?.getD undef = .pointer (some ⟨g + 1, 0, none⟩)) (b0 : V.heap[g]? = some (.cells #[vo] 23 (0, 0))) (b1 : V.heap[g + 1]? = some (.cells #[x, y] 44 (0, 0))) :
    (results Try.f23 tmps).run Try.prog V = .ok (.tuple #[vo, .agg #[x, y]]) V := by
  have hl := run_loadVar_row (P := Try.prog) V (g + 1) 44 44 #[x, y] (0, 0) _ b1 Try.underlying44 rfl (by kernel_rfl)
  have hl0 : (loadVar 23 ⟨g, 0, none⟩).run Try.prog V = .ok vo V := by
    obtain ⟨c1, c2, c3⟩ := box_cell b0
    simp [go_sem, c1]
  simp [results, Try.results23, h4, h5, asAddr, hl, hl0]

set_option maxRecDepth 10000 in
set_option maxHeartbeats 4000000 in
theorem play_any {W : World} {a aa : Option Addr} {len cap la ca : Nat} {us : List Um} {asked : List ByteArray} (hU : Hid (Ul W a len cap us)) (hA : Hid (Sb W aa la ca asked)) (hs : Hid (Usm us)) (hz : Hid (∀ z ∈ asked, Tsm z)) (hlen : us.length ≤ 1000) :
    Calls Try.prog 23 #[.slice a len cap, .slice aa la ca] W fun e W' => ∃ v, e = .returned (.tuple #[v, .agg #[.string (if (hrun (us.map Um.un) asked).e = 0 then ⟨#[]⟩ else (hrun (us.map Um.un) asked).path), .int .i64 (hrun (us.map Um.un) asked).e]]) ∧ Below W.heap.size W W' ∧ ((hrun (us.map Um.un) asked).e = 0 → Sw W' W.heap.size v (hrun (us.map Um.un) asked).out) := by
  have hmf : ∀ (fn : Fn) (first cap : Array Value) (w : World), (Instr.makeFunc fn first cap).run Try.prog w = .ok (.func fn first cap) w := fun _ _ _ _ => rfl
  have hmm := @run_makeMap Try.prog
  obtain ⟨R, HR⟩ : ∃ R, Hid (R = hrun (us.map Um.un) asked) := ⟨_, rfl⟩
  rw [← HR.out]
  have QB : Hid _ := pby_any hU hs ((W.alloc (.cells #[.slice none 0 0] 23)).alloc (.cells #[.string ⟨#[]⟩, .int .i64 0] 44)) (((Below.refl _ W).alloc (Nat.le_refl _) _).alloc (by simp) _)
  go_enter_defers Try.func23, Try.ntmps23
  go_wp2_with fail
  refine Calls.mono QB.out ?_
  rintro e w1 ⟨rfl, hM1, hb1⟩
  have e4 : ((((w1.alloc (.cells #[.map (some (W.heap.size + 1 + 1))] 52)).alloc (.map #[] 0)).alloc (.cells #[.map (some (w1.heap.size + 1))] 60)).alloc (.cells #[.nilFunc] 61)).heap[w1.heap.size + 1 + 1 + 1]? = some (.cells #[.nilFunc] 61 (0, 0)) := by
    have := heap_alloc_new (((w1.alloc (.cells #[.map (some (W.heap.size + 1 + 1))] 52)).alloc (.map #[] 0)).alloc (.cells #[.map (some (w1.heap.size + 1))] 60)) (.cells #[.nilFunc] 61)
    simpa using this
  obtain ⟨c4, f4, g4⟩ := box_cell e4
  have E4 : Hid _ := e4
  clear e4
  go_wp2_with fail
  refine Calls.mono (peach_any hU hs hlen W.heap.size w1.heap.size ((us.map Um.un).length + 1) aa la ca asked hs0 _ hA hz rfl ?ly ⟨List.nodup_nil, fun x hx => by simp [hs0] at hx⟩ .nil (by show _ ≤ _; omega)) ?_
  case ly =>
    have h1 : ∃ n, Mg w1 (W.heap.size + 2) n (ug us) := by simpa using hM1
    exact Ly.start h1 (by simpa using hb1)
  rintro e w5 hend
  change Eend W W.heap.size w1.heap.size us (hrun (us.map Um.un) asked) e w5 at hend
  rw [← HR.out] at hend
  rcases hend with ⟨hE, rfl, hL⟩ | ⟨hE, rfl, out, gm, hL⟩
  · obtain ⟨vo, hbo, hso⟩ := hL.bo
    obtain ⟨oa, oc, rfl⟩ := hso.slice
    obtain ⟨q1, q2, q3⟩ := box_cell hbo
    have hbw := hL.bw
    have k1 : w5.cell? ⟨W.heap.size + 1, 0, none⟩ = some (.string ⟨#[]⟩) := by simp [World.cell?, hbw]
    have k2 : w5.cell? ⟨W.heap.size + 1, 1, none⟩ = some (.int .i64 0) := by simp [World.cell?, hbw]
    have k3 : w5.frozen? ⟨W.heap.size + 1, 0, none⟩ = false := by simp [World.frozen?, hbw]
    have k4 : w5.frozen? ⟨W.heap.size + 1, 1, none⟩ = false := by simp [World.frozen?, hbw]
    have k5 : W.heap.size + 1 < w5.heap.size := (Array.getElem?_eq_some_iff.1 hbw).1
    have HL : Hid _ := hL
    have HBW : Hid _ := hbw
    have HBO : Hid _ := hbo
    have HSO : Hid (Sw w5 (w1.heap.size + 4) (.slice oa R.out.length oc) R.out) := hso
    clear hbw hbo hso hL
    go_wp2
    refine leaves_cons (f := 32) (args := #[.pointer (some ⟨W.heap.size + 1, 0, none⟩)]) (by simp) (by simp [go_sem]) ?_
    refine (catch_idle _ _).mono ?_
    rintro e u' w'' ⟨rfl, rfl, rfl⟩
    have hbo1 : (w5.setCell ⟨W.heap.size, 0, none⟩ (.slice oa R.out.length oc)).heap[W.heap.size]? = some (.cells #[.slice oa R.out.length oc] 23 (0, 0)) := by rw [blk_set HBO.out 0 _]; simp
    have hbw1 : (w5.setCell ⟨W.heap.size, 0, none⟩ (.slice oa R.out.length oc)).heap[W.heap.size + 1]? = some (.cells #[.string ⟨#[]⟩, .int .i64 0] 44 (0, 0)) := (heap_setCell_other _ _ _ _ (by simp)).trans HBW.out
    have hbw2 : (((w5.setCell ⟨W.heap.size, 0, none⟩ (.slice oa R.out.length oc)).setCell ⟨W.heap.size + 1, 0, none⟩ (.string ⟨#[]⟩)).setCell ⟨W.heap.size + 1, 1, none⟩ (.int .i64 0)).heap[W.heap.size + 1]? = some (.cells #[.string ⟨#[]⟩, .int .i64 0] 44 (0, 0)) := by rw [blk_set (blk_set hbw1 0 _) 1 _]; simp
    have hbo2 : (((w5.setCell ⟨W.heap.size, 0, none⟩ (.slice oa R.out.length oc)).setCell ⟨W.heap.size + 1, 0, none⟩ (.string ⟨#[]⟩)).setCell ⟨W.heap.size + 1, 1, none⟩ (.int .i64 0)).heap[W.heap.size]? = some (.cells #[.slice oa R.out.length oc] 23 (0, 0)) := by rw [heap_setCell_other _ _ _ _ (by simp), heap_setCell_other _ _ _ _ (by simp)]; exact hbo1
    have hso := HSO.out
    have hsz := HL.out.hh
    have hs3 : Sw (((w5.setCell ⟨W.heap.size, 0, none⟩ (.slice oa R.out.length oc)).setCell ⟨W.heap.size + 1, 0, none⟩ (.string ⟨#[]⟩)).setCell ⟨W.heap.size + 1, 1, none⟩ (.int .i64 0)) (w1.heap.size + 4) (.slice oa R.out.length oc) R.out :=
      own_set_low (own_set_low (own_set_low hso _ 0 _ (by omega)) _ 0 _ (by omega)) _ 1 _ (by omega)
    have hbl : Below W.heap.size W (((w5.setCell ⟨W.heap.size, 0, none⟩ (.slice oa R.out.length oc)).setCell ⟨W.heap.size + 1, 0, none⟩ (.string ⟨#[]⟩)).setCell ⟨W.heap.size + 1, 1, none⟩ (.int .i64 0)) :=
      ((HL.out.below.setCell (p := ⟨W.heap.size, 0, none⟩) (Nat.le_refl _) _).setCell (p := ⟨W.heap.size + 1, 0, none⟩) (by simp) _).setCell (p := ⟨W.heap.size + 1, 1, none⟩) (by simp) _
    generalize (((w5.setCell ⟨W.heap.size, 0, none⟩ (.slice oa R.out.length oc)).setCell ⟨W.heap.size + 1, 0, none⟩ (.string ⟨#[]⟩)).setCell ⟨W.heap.size + 1, 1, none⟩ (.int .i64 0)) = V at hbw2 hbo2 hs3 hbl ⊢
    have hA : Below V.heap.size V (V.alloc (.cells #[.string ⟨#[]⟩, .int .i64 0] 44)) := (Below.refl _ _).alloc (Nat.le_refl _) _
    have l0 := (Array.getElem?_eq_some_iff.1 hbo2).1
    have l1 := (Array.getElem?_eq_some_iff.1 hbw2).1
    refine ⟨.tuple #[.slice oa R.out.length oc, .agg #[.string ⟨#[]⟩, .int .i64 0]], lay_res rfl rfl ((hA.block _ l0).trans hbo2) ((hA.block _ l1).trans hbw2), _, rfl, hbl.trans (hA.mono hbl.size), ?_⟩
    exact (hs3.below hA).base (by omega)
  · obtain ⟨vo, hbo, _⟩ := hL.bo
    have hbw := hL.bw
    have HL : Hid _ := hL
    have HBW : Hid _ := hbw
    have HBO : Hid _ := hbo
    clear hbw hbo hL
    go_wp2
    refine leaves_cons (f := 32) (args := #[.pointer (some ⟨W.heap.size + 1, 0, none⟩)]) (by simp) (by simp [go_sem]) ?_
    refine (catch_panicking R.path R.e w5 HBW.out).mono ?_
    rintro e u' w'' ⟨rfl, rfl, h1, h2, h3⟩
    have l0 := (Array.getElem?_eq_some_iff.1 HBO.out).1
    refine ⟨.tuple #[vo, .agg #[.string R.path, .int .i64 R.e]], lay_res rfl rfl ((h2 _ l0 (by omega)).trans HBO.out) h1, ⟨_, rfl⟩, HL.out.below.trans (h3 _ (by omega))⟩

end Go.Proofs.Ytnkknkijnpdapaa
