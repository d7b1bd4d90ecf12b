/- A pool that nobody made: its names; where a name is found. -/
import Derived.Test.YtfkhocmbhnigeaaGreatVNil
import Derived.Test.YtfkhocmbhnigeaaGreatJIt
import Derived.Shelf.SlIter.Nil
namespace Go.Proofs.YtfkhocmbhnigeaaGreat
open Go.RowKit Go.Maps Go.Sort Go.Shelf
set_option linter.unusedVariables false
set_option linter.unusedSimpArgs false

theorem sorts38 (m : Nat) : AnyZ.SortsIn Tryz.prog It.sorted_ren Fence.wide m :=
  ⟨fun blk off cap ss W hH hblk hsz => callsIn_wide.2 (AnyM.slices_Sort_string It.sort blk off cap ss W hH hblk hsz), fun p cap W => callsIn_wide.2 (AnyM.slices_Sort_string_none It.sort p cap W)⟩

theorem pkeys_any (mb : Option Nat) (W : World) : Calls Tryz.prog 33 #[.map mb] W fun e w' => e = .returned (.func (.func 65) #[] #[.pointer (some ⟨W.heap.size, 0, none⟩)]) ∧ w' = W.alloc (.cells #[.map mb] 83) :=
  (callsIn_wide (n := 5)).1 (AnyZ.keys_in It.keys Fence.wide 5 trivial rfl mb W)

set_option maxHeartbeats 1000000 in
theorem psorted_nil (W : World) :
    Calls Tryz.prog 32 #[.func (.func 65) #[] #[.pointer (some ⟨W.heap.size, 0, none⟩)]] (W.alloc (.cells #[.map none] 83)) fun e w' => e = .returned (.slice none 0 0) ∧ Below (W.heap.size + 1) (W.alloc (.cells #[.map none] 83)) w' := by
  have hseq : SeqGives Fence.wide 2 Tryz.prog 65 #[.pointer (some ⟨W.heap.size, 0, none⟩)] encStr (fun ss : List (List UInt8) => ss = []) 0 (W.alloc (.cells #[.map none] 83)) :=
    AnyZ.keys_gives_nil (ρ := It.keys_ren) { It.keys with } Fence.wide _ trivial rfl W.heap.size _ (by simp) ((Ob.new W #[.map none] 83).cell 0 rfl)
  have cS := AnyZ.sorted_in It.sorted Fence.wide 5 trivial trivial trivial trivial rfl (by omega) (sorts38 _) (enters_of Tryz.func64 (by kernel_rfl) rfl) 65 #[.pointer (some ⟨W.heap.size, 0, none⟩)] trivial (enters_of Tryz.func65 (by kernel_rfl) rfl) _ _ (by unfold maxLen; omega) (by omega) _ hseq
  have cS2 := callsIn_wide.1 cS
  change Calls Tryz.prog 32 _ _ _ at cS2
  refine cS2.mono ?_
  rintro e w' ⟨v, ss, rfl, hP, hrow, hv, hb⟩
  exact ⟨by rw [hv.2 hP], by simpa using hb⟩

set_option maxHeartbeats 1000000 in
set_option maxRecDepth 20000 in
theorem pnames0 (W : World) :
    Calls Tryz.prog 12 #[.pointer none] W fun e W' => e = .returned (.slice none 0 0) ∧ Below W.heap.size W W' := by
  have Q : Hid _ := pthere0 W
  have hf1 := fld_nil
  go_enter Tryz.func12, Tryz.ntmps12
  go_wp2_with fail
  refine Calls.mono Q.out ?_
  rintro e w1 ⟨rfl, hb1⟩
  have HB1 : Hid _ := hb1
  clear hb1 Q
  go_wp2_with fail
  refine Calls.mono (pkeys_any none w1) ?_
  rintro e w2 ⟨rfl, rfl⟩
  go_wp2_with fail
  refine Calls.mono (psorted_nil w1) ?_
  rintro e w3 ⟨rfl, hb3⟩
  have HB3 : Hid (Below W.heap.size W w3) := (HB1.out.alloc HB1.out.size _).trans (hb3.mono (by have := HB1.out.size; omega))
  clear hb3 HB1
  go_wp2_with fail
  refine Calls.mono (ptexts0 _ _ _) ?_
  rintro e w4 ⟨rfl, rfl⟩
  go_wp2
  go_ret
  exact ⟨rfl, HB3.out⟩

theorem so_one {w : World} {b : Nat} {v : Value} {x : List Int} (h : So w b v [x]) : ∃ g c, v = .slice (some ⟨g, 0, none⟩) 1 c ∧ w.cell? ⟨g, 0, none⟩ = some (.string (strOfNums x)) ∧ g < w.heap.size := by
  rcases h.1.2 with ⟨_, h2⟩ | ⟨g, c, cur, rfl, h2, h3, h4⟩
  · simp at h2
  · refine ⟨g, c, rfl, ?_, (Array.getElem?_eq_some_iff.1 h3).1⟩
    obtain ⟨_, _, _, h5⟩ := h4
    obtain ⟨l⟩ := cur
    cases l with
    | nil => simp at h5
    | cons y r =>
      simp [scell] at h5
      simp [World.cell?, h3, h5]

theorem byts_get {s : List Int} (h : byts s) (i : Nat) : 0 ≤ s.getD i 0 ∧ s.getD i 0 ≤ 255 := by
  rw [List.getD_eq_getElem?_getD]
  cases hq : s[i]? with
  | none => simp
  | some z => simpa using h z (List.mem_of_getElem? hq)

theorem byts_parent {s : List Int} (h : byts s) : byts (nparent s).1 := by
  rw [nparent_take s]
  exact fun z hz => h z (List.mem_of_mem_take hz)

theorem s0 : strOfNums [] = ⟨#[]⟩ := by kernel_rfl

theorem places_nil (nm : List Int) : ∃ x, nplaces [] nm = [x] ∧ x.length ≤ nm.length := by
  unfold nplaces
  split
  · exact ⟨_, rfl, by simp⟩
  · exact ⟨nm, rfl, Nat.le_refl _⟩

set_option maxRecDepth 20000 in
set_option maxHeartbeats 4000000 in
theorem plook0 (sc nm : List Int) (hsb : Hid (byts sc)) (hnb : Hid (byts nm)) (hsl : sc.length ≤ 5000) (hnl : nm.length ≤ 4000) (sa ka : Option Addr) (sn sc' kn kc : Nat) (W : World) :
    Calls Tryz.prog 26 #[.pointer none, .string (strOfNums sc), .string (strOfNums nm), .slice sa sn sc', .slice ka kn kc] W fun e W' => e = .returned (.tuple #[.string ⟨#[]⟩, .bool false]) ∧ Below W.heap.size W W' := by
  obtain ⟨w1, hw1⟩ : ∃ w1, w1 = ((W.alloc (.cells #[.pointer none] 25)).alloc (.cells #[.slice sa sn sc'] 30)).alloc (.cells #[.slice ka kn kc] 59) := ⟨_, rfl⟩
  have hb1 : Below W.heap.size W w1 := by rw [hw1]; exact (((Below.refl _ _).alloc (Nat.le_refl _) _).alloc (by simp) _).alloc (by simp; omega) _
  have o1 : Ob w1 W.heap.size #[.pointer none] 25 := by rw [hw1]; exact ((Ob.new _ _ _).alloc _).alloc _
  have hmf : ∀ (fn : Fn) (first cap : Array Value) (w : World), (Instr.makeFunc fn first cap).run Tryz.prog w = .ok (.func fn first cap) w := fun _ _ _ _ => rfl
  have QH : Hid (Calls Tryz.prog 50 #[.string (strOfNums nm), .string ⟨#[46]⟩] w1 fun e w' => e = .returned (.bool (Lib.hasPrefix (strOfNums nm).data.toList (⟨#[46]⟩ : ByteArray).data.toList)) ∧ w1 = w') := Calls.mono (Sh.strings_HasPrefix (strOfNums nm) ⟨#[46]⟩ w1) (fun e w h => ⟨h.1, h.2.symm⟩)
  have O1 : Hid _ := o1
  have HB1 : Hid _ := hb1
  have HW1 : Hid _ := hw1
  have HN : Hid (nm.length ≤ 4000) := hnl
  have HS : Hid (sc.length ≤ 5000) := hsl
  have HM : Hid _ := (rfl : strOfNums nm = strOfNums nm)
  clear hb1 o1 hw1 hnl hsl
  obtain ⟨M, hM⟩ : ∃ M, M = strOfNums nm := ⟨_, rfl⟩
  obtain ⟨S0, hS0⟩ : ∃ S0, S0 = strOfNums sc := ⟨_, rfl⟩
  rw [← hM, ← hS0]
  rw [← hM] at QH
  have HM2 : Hid _ := hM
  have HS0 : Hid _ := hS0
  clear hM hS0 HM
  generalize Lib.hasPrefix M.data.toList (⟨#[46]⟩ : ByteArray).data.toList = B at QH
  go_enter Tryz.func26, Tryz.ntmps26
  go_upto_region 2 with fail
  rw [← HW1.out]
  clear HW1
  go_wp2_with fail
  refine Calls.mono QH.out ?_
  rintro e w2 ⟨rfl, rfl⟩
  clear QH
  cases B
  · skip
    go_wp2
    go_loopw [1] (fun v wr => ∃ s, v = .string (strOfNums s) ∧ Hid (byts s ∧ s.length ≤ 5000) ∧ Hid (Below w1.heap.size w1 wr)) (fun v _ => strLen v)
    case atStart => exact ⟨sc, by rw [HS0.out], ⟨hsb.out, HS.out⟩, Below.refl _ _⟩
    case round =>
      obtain ⟨s, rfl, HSS, HBr⟩ := hrel
      by_cases hse : s = []
      · subst hse
        have hne : ((strOfNums []).toList == []) = true := by rw [str_list]; rfl
        have QP : Hid _ := pplaces_any [] nm wr (show Hid (NTab wr) from trivial) (show Hid _ from by show byts []; unfold byts; simp) hnb (by simp) (by have := HN.out; omega)
        obtain ⟨x, hx, hxl⟩ := places_nil nm
        rw [hx, ← HM2.out, s0] at QP
        have HXL : Hid _ := hxl
        clear hx hxl
        generalize strOfNums [] = Z at *
        go_wp2_with fail
        refine Calls.mono QP.out ?_
        rintro e w3 ⟨v3, rfl, hso, hb3⟩
        obtain ⟨g3, c3, rfl, hc3, hl3⟩ := so_one hso
        have HB3 : Hid (Below w1.heap.size w1 w3) := HBr.out.trans (hb3.mono HBr.out.size)
        have QF : Hid _ := fun p2 p3 => pfits0 (strOfNums x) (by rw [strOfNums_size]; have := HXL.out; have := HN.out; unfold maxLen; omega) W.heap.size p2 p3 w3 (O1.out.below HB3.out O1.out.lt)
        generalize strOfNums x = X at *
        clear hso hb3 QP
        go_wp2_with fail
        refine Calls.mono (QF.out _ _) ?_
        rintro e w4 ⟨rfl, hb4⟩
        have HB4 : Hid (Below W.heap.size W w4) := HB1.out.trans ((HB3.out.mono HB1.out.size).trans (hb4.mono (Nat.le_trans HB1.out.size HB3.out.size)))
        clear hb4 HB3 QF hc3 hl3
        go_wp2
        go_ret2
        exact ⟨rfl, HB4.out⟩
      · have hne : ((strOfNums s).toList == []) = false := by
          cases s with
          | nil => exact absurd rfl hse
          | cons c r => exact str_ne c r
        have QJ : Hid _ := pjoin_any s nm wr (show Hid (NTab wr) from trivial) HSS.out.1 hnb (by have := HSS.out.2; omega) (by have := HN.out; omega)
        rw [← HM2.out] at QJ
        have QF : Hid _ := fun (V : World) (hV : Below w1.heap.size w1 V) (p2 p3 : Value) => pfits0 (strOfNums (njoin s nm)) (by rw [strOfNums_size]; have := HSS.out.2; have := HN.out; unfold njoin maxLen; split <;> simp <;> omega) W.heap.size p2 p3 V (O1.out.below hV O1.out.lt)
        have QP : Hid _ := fun V => pparent_any s V (show Hid (NTab V) from trivial) (byts_get HSS.out.1) (by have := HSS.out.2; omega)
        have hms : strLen (.string (strOfNums (nparent s).1)) < strLen (.string (strOfNums s)) := by simp only [strLen, strOfNums_size]; exact nparent_ltV s hse
        have HMS : Hid _ := hms
        have HS2 : Hid (byts (nparent s).1 ∧ (nparent s).1.length ≤ 5000) := ⟨byts_parent HSS.out.1, by have := nparent_ltV s hse; have := HSS.out.2; omega⟩
        generalize hN1 : strOfNums (nparent s).1 = N1 at *
        have HN1 : Hid _ := hN1
        generalize strOfNums (nparent s).2 = N2 at *
        generalize strOfNums (njoin s nm) = J at *
        generalize strOfNums s = S at *
        clear hN1 hms hse
        go_wp2_with fail
        refine Calls.mono QJ.out ?_
        rintro e w3 ⟨rfl, hb3⟩
        have HB3 : Hid (Below w1.heap.size w1 w3) := HBr.out.trans (hb3.mono HBr.out.size)
        have QF3 : Hid _ := QF.out w3 HB3.out
        clear hb3 QJ HBr QF
        go_wp2_with fail
        refine Calls.mono (QF3.out _ _) ?_
        rintro e w4 ⟨rfl, hb4⟩
        have HB4 : Hid (Below w1.heap.size w1 w4) := HB3.out.trans (hb4.mono HB3.out.size)
        clear hb4 QF3 HB3
        go_wp2_with fail
        refine Calls.mono (QP.out _) ?_
        rintro e w5 ⟨rfl, hb5⟩
        have HB5 : Hid (Below w1.heap.size w1 w5) := HB4.out.trans (hb5.mono HB4.out.size)
        clear hb5 QP HB4
        go_wp2
        go_roundw
        case rel => first | exact ⟨(nparent s).1, by rw [HN1.out], HS2, HB5⟩ | ((repeat apply Exists.intro); exact ⟨⟨(nparent s).1, by rw [HN1.out], HS2, HB5⟩, rfl⟩)
        case measure => exact HMS.out
  · skip
    go_wp2
    go_loopw [1] (fun v wr => ∃ s, v = .string (strOfNums s) ∧ Hid (byts s ∧ s.length ≤ 5000) ∧ Hid (Below w1.heap.size w1 wr)) (fun v _ => strLen v)
    case atStart => exact ⟨[], by rw [s0], ⟨by unfold byts; simp, by simp⟩, Below.refl _ _⟩
    case round =>
      obtain ⟨s, rfl, HSS, HBr⟩ := hrel
      by_cases hse : s = []
      · subst hse
        have hne : ((strOfNums []).toList == []) = true := by rw [str_list]; rfl
        have QP : Hid _ := pplaces_any [] nm wr (show Hid (NTab wr) from trivial) (show Hid _ from by show byts []; unfold byts; simp) hnb (by simp) (by have := HN.out; omega)
        obtain ⟨x, hx, hxl⟩ := places_nil nm
        rw [hx, ← HM2.out, s0] at QP
        have HXL : Hid _ := hxl
        clear hx hxl
        generalize strOfNums [] = Z at *
        go_wp2_with fail
        refine Calls.mono QP.out ?_
        rintro e w3 ⟨v3, rfl, hso, hb3⟩
        obtain ⟨g3, c3, rfl, hc3, hl3⟩ := so_one hso
        have HB3 : Hid (Below w1.heap.size w1 w3) := HBr.out.trans (hb3.mono HBr.out.size)
        have QF : Hid _ := fun p2 p3 => pfits0 (strOfNums x) (by rw [strOfNums_size]; have := HXL.out; have := HN.out; unfold maxLen; omega) W.heap.size p2 p3 w3 (O1.out.below HB3.out O1.out.lt)
        generalize strOfNums x = X at *
        clear hso hb3 QP
        go_wp2_with fail
        refine Calls.mono (QF.out _ _) ?_
        rintro e w4 ⟨rfl, hb4⟩
        have HB4 : Hid (Below W.heap.size W w4) := HB1.out.trans ((HB3.out.mono HB1.out.size).trans (hb4.mono (Nat.le_trans HB1.out.size HB3.out.size)))
        clear hb4 HB3 QF hc3 hl3
        go_wp2
        go_ret2
        exact ⟨rfl, HB4.out⟩
      · have hne : ((strOfNums s).toList == []) = false := by
          cases s with
          | nil => exact absurd rfl hse
          | cons c r => exact str_ne c r
        have QJ : Hid _ := pjoin_any s nm wr (show Hid (NTab wr) from trivial) HSS.out.1 hnb (by have := HSS.out.2; omega) (by have := HN.out; omega)
        rw [← HM2.out] at QJ
        have QF : Hid _ := fun (V : World) (hV : Below w1.heap.size w1 V) (p2 p3 : Value) => pfits0 (strOfNums (njoin s nm)) (by rw [strOfNums_size]; have := HSS.out.2; have := HN.out; unfold njoin maxLen; split <;> simp <;> omega) W.heap.size p2 p3 V (O1.out.below hV O1.out.lt)
        have QP : Hid _ := fun V => pparent_any s V (show Hid (NTab V) from trivial) (byts_get HSS.out.1) (by have := HSS.out.2; omega)
        have hms : strLen (.string (strOfNums (nparent s).1)) < strLen (.string (strOfNums s)) := by simp only [strLen, strOfNums_size]; exact nparent_ltV s hse
        have HMS : Hid _ := hms
        have HS2 : Hid (byts (nparent s).1 ∧ (nparent s).1.length ≤ 5000) := ⟨byts_parent HSS.out.1, by have := nparent_ltV s hse; have := HSS.out.2; omega⟩
        generalize hN1 : strOfNums (nparent s).1 = N1 at *
        have HN1 : Hid _ := hN1
        generalize strOfNums (nparent s).2 = N2 at *
        generalize strOfNums (njoin s nm) = J at *
        generalize strOfNums s = S at *
        clear hN1 hms hse
        go_wp2_with fail
        refine Calls.mono QJ.out ?_
        rintro e w3 ⟨rfl, hb3⟩
        have HB3 : Hid (Below w1.heap.size w1 w3) := HBr.out.trans (hb3.mono HBr.out.size)
        have QF3 : Hid _ := QF.out w3 HB3.out
        clear hb3 QJ HBr QF
        go_wp2_with fail
        refine Calls.mono (QF3.out _ _) ?_
        rintro e w4 ⟨rfl, hb4⟩
        have HB4 : Hid (Below w1.heap.size w1 w4) := HB3.out.trans (hb4.mono HB3.out.size)
        clear hb4 QF3 HB3
        go_wp2_with fail
        refine Calls.mono (QP.out _) ?_
        rintro e w5 ⟨rfl, hb5⟩
        have HB5 : Hid (Below w1.heap.size w1 w5) := HB4.out.trans (hb5.mono HB4.out.size)
        clear hb5 QP HB4
        go_wp2
        go_roundw
        case rel => first | exact ⟨(nparent s).1, by rw [HN1.out], HS2, HB5⟩ | ((repeat apply Exists.intro); exact ⟨⟨(nparent s).1, by rw [HN1.out], HS2, HB5⟩, rfl⟩)
        case measure => exact HMS.out

end Go.Proofs.YtfkhocmbhnigeaaGreat
