/- The program's own Order. -/
import Derived.Test.YtnkknkijnpdapaaJLay2
import Derived.Test.YtnkknkijnpdapaaExt
namespace Go.Proofs.Ytnkknkijnpdapaa
open Go.RowKit
set_option linter.unusedVariables false
set_option linter.unusedSimpArgs false

set_option maxHeartbeats 1000000 in
theorem pmany_any (w : World) (p : ByteArray) (da pa : Option Addr) (dl dc pl pc : Nat) (h : dl ≤ 1000) :
    Calls Try.prog 22 #[.agg #[.string p, .slice da dl dc, .slice pa pl pc]] w fun e w' => e = .returned (.bool false) ∧ Below w.heap.size w w' := by
  have hd : ¬ ((dl : Int) > 1000) := by omega
  go_enter Try.func22, Try.ntmps22
  go_wp2
  go_ret
  exact ⟨by first | (simp; done) | (simp; omega), (Below.refl _ _).alloc (Nat.le_refl _) _⟩

set_option maxRecDepth 10000 in
set_option maxHeartbeats 1000000 in
theorem pidx_any {w : World} {a : Option Addr} {len cap : Nat} {us : List Um} (hU : Hid (Ul w a len cap us)) (hd : Hid (∀ u ∈ us, u.deps.length ≤ 1000)) :
    Calls Try.prog 31 #[.slice a len cap, .func (.func 22) #[] #[]] w fun e w' => e = .returned (.int .i64 (-1)) ∧ Below w.heap.size w w' := by
  obtain ⟨h1, h2, h3, h4, h6, _⟩ := hU.out
  have H1 : Hid (us.length = len) := h1
  have H6 : Hid _ := h6
  clear h1 h6 hU
  go_enter Try.func31, Try.ntmps31
  go_wp2
  go_loopw [8] (fun v wr => ∃ k : Nat, v = .int .i64 (k : Int) ∧ k ≤ len ∧ Hid (Below w.heap.size w wr)) (fun v _ => len - (intOf v).toNat)
  case atStart => exact ⟨0, rfl, by omega, Below.refl _ _⟩
  case round =>
    obtain ⟨k, rfl, hk, HB⟩ := hrel
    by_cases hkl : k < len
    · obtain ⟨b, off, rfl, hlt, hc⟩ := H6.out (by omega)
      obtain ⟨u, hu⟩ : ∃ u, us[k]? = some u := ⟨us[k]'(by rw [H1.out]; exact hkl), List.getElem?_eq_getElem (by rw [H1.out]; exact hkl)⟩
      obtain ⟨c0, c1, c2⟩ := unit_cells (w := wr) (fun i u hi j v hj => (HB.out.cell hlt).trans (hc i u hi j v hj)) hu
      have hlt2 : b < wr.heap.size := Nat.lt_of_lt_of_le hlt HB.out.size
      have Q : Hid _ := pmany_any wr u.path u.da u.pa u.deps.length u.dc u.pub.length u.pc (hd.out u (List.mem_of_getElem? hu))
      obtain ⟨up, uda, udc, ud, upa, upc, upb⟩ := u
      simp only at c0 c1 c2 Q
      clear hu hc
      go_wp2_with fail
      refine Calls.mono Q.out ?_
      rintro e w1 ⟨rfl, hb1⟩
      have HB2 : Hid (Below w.heap.size w w1) := HB.out.trans (hb1.mono HB.out.size)
      clear HB hb1 Q
      go_wp2
      go_roundw
      case rel => first | exact ⟨k + 1, by go_num, by omega, HB2⟩ | ((repeat apply Exists.intro); exact ⟨⟨k + 1, by go_num, by omega, HB2⟩, rfl⟩)
      case measure => simp [intOf]; omega
    · obtain rfl : k = len := by omega
      go_wp2
      go_ret
      exact ⟨rfl, HB.out⟩

set_option maxHeartbeats 1000000 in
theorem pcont_any {w : World} {a : Option Addr} {len cap : Nat} {us : List Um} (hU : Hid (Ul w a len cap us)) (hd : Hid (∀ u ∈ us, u.deps.length ≤ 1000)) :
    Calls Try.prog 21 #[.slice a len cap, .func (.func 22) #[] #[]] w fun e w' => e = .returned (.bool false) ∧ Below w.heap.size w w' := by
  have Q : Hid _ := pidx_any hU hd
  clear hU hd
  go_enter Try.func21, Try.ntmps21
  go_wp2_with fail
  refine Calls.mono Q.out ?_
  rintro e w1 ⟨rfl, hb1⟩
  clear Q
  go_wp2
  go_ret
  exact ⟨by simp, hb1⟩

/-- What is wrong is a path that memory has room for. -/
theorem hcome_path {l : List Un} (hl : ∀ u ∈ l, ∀ d ∈ u.deps, Tsm d) : ∀ (f : Nat) (p : ByteArray) (s : Hs), Tsm p → (s.e = 0 ∨ Tsm s.path) → ((hcome l f p s).e = 0 ∨ Tsm (hcome l f p s).path)
  | 0, p, s, _, h => by rw [hcome]; exact h
  | f + 1, p, s, hp, h => by
    rw [hcome]
    split
    · exact h
    · split
      · exact .inr hp
      · cases hu : hunit l p with
        | none => exact .inr hp
        | some u =>
          simp only
          split
          · exact .inr hp
          · have hf : ∀ (ds : List ByteArray) (s : Hs), (∀ d ∈ ds, Tsm d) → (s.e = 0 ∨ Tsm s.path) → ((ds.foldl (fun s d => hcome l f d s) s).e = 0 ∨ Tsm (ds.foldl (fun s d => hcome l f d s) s).path) := by
              intro ds
              induction ds with
              | nil => intro s _ h; exact h
              | cons d ds ih => intro s hd h; rw [List.foldl_cons]; exact ih _ (fun x hx => hd x (by simp [hx])) (hcome_path hl f d s (hd d (by simp)) h)
            have h2 := hf u.deps { s with way := s.way ++ [p] } (hl u (hunit_some hu).1) h
            split
            · exact h2
            · exact h2

theorem hrun_path {us : List Um} {asked : List ByteArray} (hs : Usm us) (hz : ∀ z ∈ asked, Tsm z) : (hrun (us.map Um.un) asked).e = 0 ∨ Tsm (hrun (us.map Um.un) asked).path := by
  unfold hrun
  have hl : ∀ u ∈ us.map Um.un, ∀ d ∈ u.deps, Tsm d := fun u hu d hd => by
    obtain ⟨m, hm, rfl⟩ := List.mem_map.1 hu
    exact (hs m hm).2 d hd
  have hf : ∀ (ds : List ByteArray) (s : Hs), (∀ d ∈ ds, Tsm d) → (s.e = 0 ∨ Tsm s.path) → ((ds.foldl (fun s p => hcome (us.map Um.un) ((us.map Um.un).length + 1) p s) s).e = 0 ∨ Tsm (ds.foldl (fun s p => hcome (us.map Um.un) ((us.map Um.un).length + 1) p s) s).path) := by
    intro ds
    induction ds with
    | nil => intro s _ h; exact h
    | cons d ds ih => intro s hd h; rw [List.foldl_cons]; exact ih _ (fun x hx => hd x (by simp [hx])) (hcome_path hl _ d s (hd d (by simp)) h)
  exact hf asked hs0 hz (.inl rfl)

set_option maxRecDepth 10000 in
set_option maxHeartbeats 4000000 in
theorem pgorder_any {W : World} {a aa : Option Addr} {len cap la ca : Nat} {us : List Um} {asked : List ByteArray} (hU : Hid (Ul W a len cap us)) (hA : Hid (Sb W aa la ca asked)) (hfw : Hid (hfew us = true)) (hla : la ≤ 30) (hs : Hid (Usm us)) (hz : Hid (∀ z ∈ asked, Tsm z)) :
    Calls Try.prog 11 #[.slice a len cap, .slice aa la ca] W fun e W' => ∃ v, e = .returned (.tuple #[v, .string (hord (us.map Um.un) asked).2.1, .int .i64 (hord (us.map Um.un) asked).2.2]) ∧ Sw W' W.heap.size v (hord (us.map Um.un) asked).1 ∧ Below W.heap.size W W' := by
  have hl := (hfew_of hfw.out).1
  rw [hU.out.hlen] at hl
  have QC : Hid _ := pcont_any hU (fun u hu => by
    obtain ⟨j, hj⟩ := List.getElem?_of_mem hu
    have := ((hfew_of hfw.out).2 j u hj).1
    omega)
  have QL : Hid _ := fun (V : World) (hV : Below W.heap.size W V) => play_any (W := V) (hU.out.below hV) (hA.out.below hV) hs hz (by have := (hfew_of hfw.out).1; omega)
  have HP : Hid _ := hrun_path hs.out hz.out (us := us) (asked := asked)
  unfold hord
  generalize hrun (us.map Um.un) asked = R at QL HP
  clear hU hA hfw hs hz
  have g1 : ¬ ((len : Int) > 1000) := by omega
  have g2 : ¬ ((la : Int) > 1000) := by omega
  by_cases hE : R.e = 0
  · rw [if_pos hE]
    simp only [hE, if_true] at QL
    simp only
    go_enter Try.func11, Try.ntmps11
    go_wp2_with fail
    refine Calls.mono QC.out ?_
    rintro e w1 ⟨rfl, hb1⟩
    have HB1 : Hid _ := hb1
    clear hb1 QC
    go_wp2_with fail
    refine Calls.mono (QL.out _ HB1.out) ?_
    rintro e w2 ⟨v, rfl, hb2, hs2⟩
    have HB2 : Hid (Below W.heap.size W w2) := HB1.out.trans (hb2.mono HB1.out.size)
    have hs3 : Sw w2 W.heap.size v R.out := (hs2 trivial).base HB1.out.size
    obtain ⟨oa, oc, rfl⟩ := hs3.slice
    have HS : Hid (Sw w2 W.heap.size (.slice oa R.out.length oc) R.out) := hs3
    clear hb2 hs2 hs3 QL
    go_wp2
    go_ret3
    exact ⟨_, rfl, HS.out.below ((Below.refl _ w2).alloc (Nat.le_refl _) _), HB2.out.alloc HB2.out.size _⟩
  · rw [if_neg hE]
    simp only [hE, if_false] at QL
    simp only
    have HT : Hid (Tsm R.path) := HP.out.resolve_left hE
    have hne : (R.e != 0) = true := by simpa using hE
    clear hE HP
    generalize R.e = ec at QL hne
    generalize R.path = rp at QL HT
    go_enter Try.func11, Try.ntmps11
    go_wp2_with fail
    refine Calls.mono QC.out ?_
    rintro e w1 ⟨rfl, hb1⟩
    have HB1 : Hid _ := hb1
    clear hb1 QC
    go_wp2_with fail
    refine Calls.mono (QL.out _ HB1.out) ?_
    rintro e w2 ⟨v, rfl, hb2, _⟩
    have HB2 : Hid (Below W.heap.size W w2) := HB1.out.trans (hb2.mono HB1.out.size)
    clear hb2 QL
    go_wp2
    have QK : Hid _ := fun V => pclone_any rp V HT
    have k1 : (w2.alloc (.cells #[.string rp, .int .i64 ec] 44)).cell? ⟨w2.heap.size, 0, none⟩ = some (.string rp) := by rw [World.cell?_alloc_new]; rfl
    have k2 : (w2.alloc (.cells #[.string rp, .int .i64 ec] 44)).cell? ⟨w2.heap.size, 1, none⟩ = some (.int .i64 ec) := by rw [World.cell?_alloc_new]; rfl
    have HB3 : Hid (Below W.heap.size W (w2.alloc (.cells #[.string rp, .int .i64 ec] 44))) := HB2.out.alloc HB2.out.size _
    have d1 := fun x : Ext (w2.alloc (.cells #[.string rp, .int .i64 ec] 44)) => x.cell (p := ⟨w2.heap.size, 0, none⟩) (by simp) k1
    have d2 := fun x : Ext (w2.alloc (.cells #[.string rp, .int .i64 ec] 44)) => x.cell (p := ⟨w2.heap.size, 1, none⟩) (by simp) k2
    refine wp_region_ext (w2.alloc (.cells #[.string rp, .int .i64 ec] 44)) (Below.refl _ _) (by kernel_rfl) (by kernel_rfl) ?_
    repeat (go_big_quiet_step (first
      | (go_at_call 24; exact Ext.call (fun V hV => QK.out V) _)))
    refine wpQuiet_nil ?_
    rintro w5 ⟨⟨_, hb5⟩, rfl⟩
    have HB5 : Hid (Below W.heap.size W w5) := HB3.out.trans (hb5.mono HB3.out.size)
    clear hb5 d1 d2 k1 k2
    go_wp2
    go_ret3
    exact ⟨_, rfl, Sw.nil _ _, HB5.out⟩

end Go.Proofs.Ytnkknkijnpdapaa
