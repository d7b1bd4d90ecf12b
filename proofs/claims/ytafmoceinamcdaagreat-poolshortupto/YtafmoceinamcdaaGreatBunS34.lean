/- Put together by a program out of these texts of mine: VTo, VTc. -/
import Derived.Test.YtafmoceinamcdaaGreatBunS7
import Derived.Test.YtafmoceinamcdaaGreatBunS33

namespace Go.Proofs.YtafmoceinamcdaaGreat
open Go.ChangeShapes Go.WideShapes Go.ChangeAt Go.RowKit
set_option linter.unusedVariables false
set_option linter.unusedSimpArgs false

mutual
def tot : Md → Nat
  | .str s => s.size + 1
  | .num _ _ => 1
  | .tru _ => 1
  | .ls _ _ _ ms => totL ms + 1
def totL : List Md → Nat
  | [] => 0
  | m :: r => tot m + totL r
end

theorem totL_append : ∀ (l r : List Md), totL (l ++ r) = totL l + totL r
  | [], r => by simp [totL]
  | m :: l, r => by
    have := totL_append l r
    simp only [List.cons_append, totL]
    omega

def sumTo (g : Nat → Nat) : Nat → Nat
  | 0 => 0
  | n + 1 => sumTo g n + g n

theorem sumTo_shift (g : Nat → Nat) : ∀ n, sumTo g (n + 1) = g 0 + sumTo (fun j => g (j + 1)) n
  | 0 => by simp [sumTo]
  | n + 1 => by
    have := sumTo_shift g n
    simp only [sumTo] at *
    omega

theorem sumTo_add (g : Nat → Nat) (a : Nat) : ∀ b, sumTo g (a + b) = sumTo g a + sumTo (fun j => g (a + j)) b
  | 0 => by simp [sumTo]
  | b + 1 => by
    have := sumTo_add g a b
    show sumTo g (a + b) + g (a + b) = _
    simp only [sumTo]
    omega

theorem sumTo_congr {g h : Nat → Nat} : ∀ n, (∀ j, j < n → g j = h j) → sumTo g n = sumTo h n
  | 0, _ => rfl
  | n + 1, e => by
    have := sumTo_congr n (fun j hj => e j (by omega))
    simp only [sumTo]
    rw [this, e n (by omega)]

theorem sumTo_block (g B : Nat → Nat) (k : Nat) : ∀ n, (∀ q, q < n → sumTo (fun j => g (q * k + j)) k ≤ B q) → sumTo g (n * k) ≤ sumTo B n
  | 0, _ => by simp [sumTo]
  | n + 1, h => by
    have h1 := sumTo_block g B k n (fun q hq => h q (by omega))
    have h2 := h n (by omega)
    rw [Nat.succ_mul, sumTo_add]
    simp only [sumTo]
    omega

theorem totL_map (f : Nat → Md) (g : Nat → Nat) : ∀ n, (∀ i, i < n → tot (f i) ≤ g i) → totL ((List.range n).map f) ≤ sumTo g n
  | 0, _ => by simp [totL, sumTo]
  | n + 1, h => by
    have h1 := totL_map f g n (fun i hi => h i (by omega))
    have h2 := h n (by omega)
    rw [List.range_succ, List.map_append, totL_append]
    simp only [List.map_cons, List.map_nil, totL, sumTo]
    omega

def bulkAt {H : Type} (xs : List (DataW H × List MemPlace)) (j : Nat) : Nat := match xs[j]? with
  | some z => Rows.uptoBulk z.1
  | none => 0

theorem bulk_sum {H : Type} : ∀ xs : List (DataW H × List MemPlace), sumTo (bulkAt xs) xs.length = Rows.uptoBulkAll (xs.map (·.1))
  | [] => by simp [sumTo, Rows.uptoBulkAll]
  | x :: xs => by
    have ih := bulk_sum xs
    rw [List.length_cons, sumTo_shift]
    have e : (fun j => bulkAt (x :: xs) (j + 1)) = bulkAt xs := by funext j; simp [bulkAt]
    rw [e, ih]
    simp [bulkAt, Rows.uptoBulkAll]

theorem mem_open3 {H : Type} {P : Program} {enc : TypeId × Value → H} {W : World} {L : List TypeId} {E : TypeId} (hE : memT P L E = true) {fuel : Nat} {cs : List Value} {x : DataW H × List MemPlace} (h : DataW.trod enc P W 0 (fun _ => true) true fuel E cs = some x) (hcl : cs.length = P.cellsOf E) :
    cs.length = (flds P E).length ∧ ∃ bw : Nat → Nat, sumTo bw (flds P E).length ≤ Rows.uptoBulk x.1 ∧ ∀ (j : Nat) (F : TypeId), (flds P E)[j]? = some F → F ∈ L ∧ ∃ (c : Value) (n : Nat) (y : DataW H × List MemPlace), cs[j]? = some c ∧ n ≤ fuel ∧ DataW.trod enc P W 0 (fun _ => true) true n F [c] = some y ∧ Rows.uptoBulk y.1 ≤ bw j ∧ Rows.uptoBulk y.1 ≤ Rows.uptoBulk x.1 := by
  unfold memT at hE
  simp only [Bool.and_eq_true, decide_eq_true_eq, List.all_eq_true] at hE
  obtain ⟨⟨⟨h1, h2⟩, h3⟩, h4⟩ := hE
  have hl : cs.length = (flds P E).length := hcl.trans h1
  refine ⟨hl, ?_⟩
  cases hu : P.underlying E with
  | none => unfold DataW.trod at h; cases fuel <;> simp [hu] at h
  | some u =>
    cases u with
    | struct fs =>
      obtain ⟨xs, n, hfu, hxe, hl', hlen, hfl⟩ := DataW.trod_struct hu h
      rw [hu] at h4
      simp only [List.all_eq_true, List.mem_range] at h4
      have hfn : (flds P E).length = xs.length := by rw [flds_struct hu, hlen]; simp
      have hx8 := congrArg Prod.fst hxe
      simp only at hx8
      refine ⟨bulkAt xs, ?_, fun j F hF => ?_⟩
      · rw [hfn, hx8, bulk_sum xs]; simp [Rows.uptoBulk]
      obtain ⟨hL, hc1⟩ := h3 F (List.mem_of_getElem? hF)
      refine ⟨by simpa using hL, ?_⟩
      have hj : j < cs.length := by rw [hl]; exact (List.getElem?_eq_some_iff.1 hF).1
      refine ⟨cs[j], ?_⟩
      have hF' : (fs.toList.map (·.type))[j]? = some F := by rw [flds_struct hu] at hF; exact hF
      rw [List.getElem?_map] at hF'
      cases hq : fs.toList[j]? with
      | none => rw [hq] at hF'; cases hF'
      | some f =>
        rw [hq] at hF'
        simp at hF'
        have hq' : fs[j]? = some f := by simpa using hq
        have hjs : j < fs.size := (Array.getElem?_eq_some_iff.1 hq').1
        have h5 := h4 j hjs
        rw [hq'] at h5
        simp at h5
        have h6 := hfl j f hq'
        rw [hF', h5, hc1] at h6
        have h7 : (cs.drop j).take 1 = [cs[j]] := by
          rw [List.drop_eq_getElem_cons hj, List.take_succ_cons, List.take_zero]
        rw [h7] at h6
        have hx : j < xs.length := by rw [hlen]; exact hjs
        rw [List.getElem?_eq_getElem hx] at h6
        refine ⟨n, _, List.getElem?_eq_getElem hj, by omega, h6, ?_, ?_⟩
        · simp [bulkAt, List.getElem?_eq_getElem hx]
        · rw [hx8]
          have := mem_bulkV _ _ (show xs[j].1 ∈ List.map (fun x => x.1) xs from List.mem_map.2 ⟨_, List.getElem_mem hx, rfl⟩)
          simp only [Rows.uptoBulk]
          omega
    | _ =>
      have e : flds P E = [E] := flds_other hu (fun fs => by simp)
      refine ⟨fun _ => Rows.uptoBulk x.1, by rw [e]; simp [sumTo], fun j F hF => ?_⟩
      obtain ⟨hL, hc1⟩ := h3 F (List.mem_of_getElem? hF)
      refine ⟨by simpa using hL, ?_⟩
      have hj : j < cs.length := by rw [hl]; exact (List.getElem?_eq_some_iff.1 hF).1
      refine ⟨cs[j], ?_⟩
      rw [e] at hF hl
      have hj0 : j = 0 := by
        have := (List.getElem?_eq_some_iff.1 hF).1
        simpa using this
      subst hj0
      simp at hF
      subst hF
      match cs, hl with
      | [c], _ => exact ⟨fuel, x, rfl, Nat.le_refl _, h, Nat.le_refl _, Nat.le_refl _⟩

theorem bulk_one {H : Type} (x : DataW H) : 1 ≤ Rows.uptoBulk x := by
  cases x with
  | lit l => cases l <;> simp [Rows.uptoBulk]
  | _ => simp [Rows.uptoBulk]

theorem ok_open_tot {H : Type} {P : Program} {enc : TypeId × Value → H} {W : World} {L : List TypeId} (hL : famT P L = true) (hB : lightT P L = true) : ∀ (fuel : Nat) (T : TypeId) (c : Value) (x : DataW H × List MemPlace), T ∈ L → Rows.uptoBulk x.1 ≤ 1048576 → DataW.trod enc P W 0 (fun _ => true) true fuel T [c] = some x → ∃ m : Md, c = m.val ∧ Ok P W T m ∧ Sz P T m ∧ Nm m ∧ tot m ≤ Rows.uptoBulk x.1 := by
  intro fuel
  induction fuel using Nat.strongRecOn with
  | ind fuel ih =>
    intro T c x hT hbk h
    have hf := List.all_eq_true.1 hL T hT
    have hb := List.all_eq_true.1 hB T hT
    cases hu : P.underlying T with
    | none => rw [hu] at hf; cases hf
    | some u =>
      rw [hu] at hf hb
      cases u with
      | string =>
        obtain ⟨s, e, _, hs⟩ := DataW.trod_string hu h
        simp at e
        subst e
        have := str_bulk hu h
        exact ⟨.str s, rfl, .str hu hs, .str (by omega), .str (by omega), by simpa [tot] using this⟩
      | int k =>
        obtain ⟨n, e, _, hw⟩ := DataW.trod_int hu h
        simp at e
        exact ⟨.num k n, e, .num hu hw, .num, .num, (by have := bulk_one x.1; simpa [tot, totL] using this)⟩
      | bool =>
        obtain ⟨b, e⟩ := trod_bool' hu h
        simp at e
        exact ⟨.tru b, e, .tru hu, .tru, .tru, (by have := bulk_one x.1; simpa [tot, totL] using this)⟩
      | slice E =>
        rcases DataW.trod_slice hu h with ⟨e, _⟩ | ⟨y, len, cap, elems, rest, n, hfn, e, hxe, _, hl, hm, hlen, hel, _, _⟩
        · simp at e
          exact ⟨.ls none 0 0 [], e, .ls hu (Nat.le_refl _) (Nat.zero_le _) (fun _ => rfl) (by simp) (fun h => absurd h (by omega)) (fun i m F hi => by simp at hi), .ls hu (by simp) (fun i m F hi => by simp at hi), .ls (fun i m hi => by simp at hi), (by have := bulk_one x.1; simpa [tot, totL] using this)⟩
        · simp at e
          have hE : memT P L E = true := hf
          have hE' := hE
          unfold memT at hE'
          simp only [Bool.and_eq_true, decide_eq_true_eq] at hE'
          have hk1 : P.cellsOf E = (flds P E).length := hE'.1.1.1
          have hk0 : 0 < (flds P E).length := hE'.1.1.2
          have hby : P.bytesOf E ≤ 100000 := by simpa using hb
          have hx1 : x.1 = .slice (elems.map (·.1)) (rest.map (·.1)) := by rw [hxe]
          have hbulk : Rows.uptoBulkAll (elems.map (·.1)) ≤ 1048576 := by
            rw [hx1] at hbk
            simp only [Rows.uptoBulk] at hbk
            omega
          have hlen2 : len ≤ 1048576 := by
            have := bulk_len (elems.map (·.1))
            simp only [List.length_map] at this
            omega
          have hsz : len * P.bytesOf E ≤ 140737488355328 := by
            have := Nat.mul_le_mul hlen2 hby
            omega
          by_cases hz : len = 0
          · subst hz
            exact ⟨.ls (some y) 0 cap [], e, .ls hu hl hm (fun h => by cases h) (by simp) (fun h => absurd h (by omega)) (fun i m F hi => by simp at hi), .ls hu hsz (fun i m F hi => by simp at hi), .ls (fun i m hi => by simp at hi), (by have := bulk_one x.1; simpa [tot, totL] using this)⟩
          · have hwt : ∀ q, ∃ bw : Nat → Nat, q < len → sumTo bw (flds P E).length ≤ bulkAt elems q ∧ ∀ (j : Nat) (F : TypeId), (flds P E)[j]? = some F → F ∈ L ∧ ∃ (c : Value) (n' : Nat) (z : DataW H × List MemPlace), W.cell? ((y.add (q * (flds P E).length)).add j) = some c ∧ n' ≤ n ∧ DataW.trod enc P W 0 (fun _ => true) true n' F [c] = some z ∧ Rows.uptoBulk z.1 ≤ bw j ∧ Rows.uptoBulk z.1 ≤ 1048576 := by
              intro q
              by_cases hq : q < len
              · have h1 := hel _ hq
                have hqe : q < elems.length := by rw [hlen]; exact hq
                rw [List.getElem?_eq_getElem hqe] at h1
                have hbe : Rows.uptoBulk (elems[q]).1 ≤ 1048576 := by
                  have := mem_bulkV _ _ (show (elems[q]).1 ∈ List.map (fun x => x.1) elems from List.mem_map.2 ⟨_, List.getElem_mem hqe, rfl⟩)
                  omega
                rw [Option.bind_eq_some_iff] at h1
                obtain ⟨cs', h2, h3⟩ := h1
                obtain ⟨_, hcl, hc⟩ := World.cells?_some h2
                obtain ⟨h5, bw, h6, h7⟩ := mem_open3 hE h3 hcl
                refine ⟨bw, fun _ => ⟨by simpa [bulkAt, List.getElem?_eq_getElem hqe] using h6, fun j F hF => ?_⟩⟩
                obtain ⟨hFL, c', n', z, hc', hn', ht', hb1, hb2⟩ := h7 j F hF
                refine ⟨hFL, c', n', z, ?_, hn', ht', hb1, by omega⟩
                have hjl : j < (flds P E).length := (List.getElem?_eq_some_iff.1 hF).1
                have h8 := hc j (by rw [hk1]; exact hjl)
                rw [hc', hk1] at h8
                exact h8
              · exact ⟨fun _ => 0, fun h => absurd h hq⟩
            obtain ⟨BW, hBW⟩ := Classical.axiomOfChoice hwt
            have hpick : ∀ i, ∃ m : Md, i < len * (flds P E).length → W.cell? (y.add i) = some m.val ∧ (∀ F, (flds P E)[i % (flds P E).length]? = some F → Ok P W F m ∧ Sz P F m) ∧ Nm m ∧ tot m ≤ BW (i / (flds P E).length) (i % (flds P E).length) := by
              intro i
              by_cases hi : i < len * (flds P E).length
              · have hq : i / (flds P E).length < len := Nat.div_lt_of_lt_mul (by rw [Nat.mul_comm]; exact hi)
                have hr : i % (flds P E).length < (flds P E).length := Nat.mod_lt _ hk0
                obtain ⟨F, hF⟩ : ∃ F, (flds P E)[i % (flds P E).length]? = some F := ⟨_, List.getElem?_eq_getElem hr⟩
                obtain ⟨hFL, c', n', y', hc', hn', ht', hb1, hb2⟩ := (hBW _ hq).2 _ _ hF
                obtain ⟨m, hm1, hm2, hm3, hm4, hm5⟩ := ih n' (by omega) F c' y' hFL hb2 ht'
                refine ⟨m, fun _ => ⟨?_, fun F' hF' => ?_, hm4, by omega⟩⟩
                · have h8 : (y.add (i / (flds P E).length * (flds P E).length)).add (i % (flds P E).length) = y.add i := add_divmod y i _
                  rw [h8] at hc'
                  rw [hc', hm1]
                · rw [hF] at hF'
                  cases hF'
                  exact ⟨hm2, hm3⟩
              · exact ⟨.tru false, fun h => absurd h hi⟩
            obtain ⟨f, hfn⟩ := Classical.axiomOfChoice hpick
            have hat : ∀ (i : Nat) (m : Md), ((List.range (len * (flds P E).length)).map f)[i]? = some m → i < len * (flds P E).length ∧ m = f i := by
              intro i m hi
              have hil : i < len * (flds P E).length := by
                have := (List.getElem?_eq_some_iff.1 hi).1
                simpa using this
              simp [hil] at hi
              exact ⟨hil, hi.symm⟩
            have hp0 : 0 < len * (flds P E).length := Nat.mul_pos (by omega) hk0
            obtain ⟨b, off, spot⟩ := y
            have hc0 := (hfn 0 hp0).1
            have hspot : spot = none := by simpa [Addr.add] using World.cell?_spot hc0
            subst hspot
            have hadd : ∀ i, (⟨b, off, none⟩ : Addr).add i = ⟨b, off + i, none⟩ := fun i => by unfold Addr.add; split <;> simp_all
            refine ⟨.ls (some ⟨b, off, none⟩) len cap ((List.range (len * (flds P E).length)).map f), e, .ls hu hl hm (fun h => by cases h) (by simp) (fun _ => ⟨b, off, rfl, ?_, fun i m hi => ?_⟩) (fun i m F hi hF => ?_), .ls hu hsz (fun i m F hi hF => ?_), .ls (fun i m hi => ?_), ?_⟩
            · rcases Nat.lt_or_ge b W.heap.size with h | h
              · exact h
              · simp [World.cell?, Addr.add, Array.getElem?_eq_none h] at hc0
            · obtain ⟨hil, rfl⟩ := hat i m hi
              rw [← hadd]
              exact (hfn i hil).1
            · obtain ⟨hil, rfl⟩ := hat i m hi
              exact ((hfn i hil).2.1 F hF).1
            · obtain ⟨hil, rfl⟩ := hat i m hi
              exact ((hfn i hil).2.1 F hF).2
            · obtain ⟨hil, rfl⟩ := hat i m hi
              exact (hfn i hil).2.2.1
            · have h1 := totL_map f (fun i => BW (i / (flds P E).length) (i % (flds P E).length)) (len * (flds P E).length) (fun i hi => (hfn i hi).2.2.2)
              have h2 := sumTo_block (fun i => BW (i / (flds P E).length) (i % (flds P E).length)) (bulkAt elems) (flds P E).length len (fun q hq => by
                refine Nat.le_trans (Nat.le_of_eq (sumTo_congr _ (fun j hj => ?_))) (hBW q hq).1
                rw [Nat.mul_comm q, Nat.mul_add_div hk0, Nat.div_eq_of_lt hj, Nat.mul_add_mod, Nat.mod_eq_of_lt hj, Nat.add_zero])
              have h3 := bulk_sum elems
              rw [hlen] at h3
              rw [hx1]
              simp only [tot, Rows.uptoBulk]
              omega
      | _ => cases hf

end Go.Proofs.YtafmoceinamcdaaGreat

namespace Go.Proofs.YtafmoceinamcdaaGreat
open Go.RowKit
set_option linter.unusedVariables false
set_option linter.unusedSimpArgs false

def totAt (ms : List Md) (i : Nat) : Nat := match ms[i]? with
  | some m => tot m
  | none => 0

theorem tot_pos (m : Md) : 1 ≤ tot m := by cases m <;> simp [tot]

theorem tot_sum : ∀ ms : List Md, sumTo (totAt ms) ms.length = totL ms
  | [] => by simp [sumTo, totL]
  | m :: ms => by
    have ih := tot_sum ms
    rw [List.length_cons, sumTo_shift]
    have e : (fun j => totAt (m :: ms) (j + 1)) = totAt ms := by funext j; simp [totAt]
    rw [e, ih]
    simp [totAt, totL]

theorem totL_len : ∀ ms : List Md, ms.length ≤ totL ms
  | [] => by simp
  | m :: ms => by
    have := totL_len ms
    have := tot_pos m
    simp only [List.length_cons, totL]
    omega

theorem totAt_pos {ms : List Md} {i : Nat} (h : i < ms.length) : 1 ≤ totAt ms i := by
  unfold totAt
  rw [List.getElem?_eq_getElem h]
  exact tot_pos _

theorem totAt_ls (ms : List Md) (i : Nat) : totL (lsM ms i) ≤ totAt ms i := by
  unfold lsM totAt
  cases h : ms[i]? with
  | none => simp [totL]
  | some m => cases m <;> simp [totL, tot]

theorem totAt_str {ms : List Md} {i : Nat} (h : i < ms.length) : (strAt ms i).size + 1 ≤ totAt ms i := by
  unfold strAt totAt
  rw [List.getElem?_eq_getElem h]
  have he : ByteArray.size ⟨#[]⟩ = 0 := rfl
  have := tot_pos ms[i]
  cases hq : ms[i] with
  | str s => simp [tot]
  | num k n => simp only [tot]; omega
  | tru b => simp only [tot]; omega
  | ls a n c m => simp only [tot]; omega

theorem sumTo_block2 (g B : Nat → Nat) (k : Nat) : ∀ n, (∀ q, q < n → B q ≤ sumTo (fun j => g (q * k + j)) k) → sumTo B n ≤ sumTo g (n * k)
  | 0, _ => by simp [sumTo]
  | n + 1, h => by
    have h1 := sumTo_block2 g B k n (fun q hq => h q (by omega))
    have h2 := h n (by omega)
    rw [Nat.succ_mul, sumTo_add g]
    simp only [sumTo]
    omega

theorem src_len {w : World} {T E : TypeId} (hT : Tryz.prog.underlying T = some (.slice E)) {a : Option Addr} {n c : Nat} {ms : List Md} (h : Src w T (.ls a n c ms)) : ms.length = n * (flds Tryz.prog E).length := by
  obtain ⟨h1, _⟩ := h
  cases h1 with
  | ls hT' hnc hm hnil hlen hmem hk =>
    rw [hT] at hT'
    cases hT'
    exact hlen

theorem src_n {w : World} {T E : TypeId} (hT : Tryz.prog.underlying T = some (.slice E)) (hz : 0 < (flds Tryz.prog E).length) {a : Option Addr} {n c : Nat} {ms : List Md} (h : Src w T (.ls a n c ms)) : n ≤ totL ms := by
  have h1 := src_len hT h
  have h2 := totL_len ms
  have h3 : n * 1 ≤ n * (flds Tryz.prog E).length := Nat.mul_le_mul_left n hz
  omega

theorem enumL_len (sc : List Int) (ms : List Md) : ∀ n, (enumL sc ms n).length = sumTo (fun i => 1 + lsN ms (i * 4 + 1)) n
  | 0 => by simp [enumL, sumTo]
  | n + 1 => by
    rw [enumL_succ, List.length_append, enumL_len sc ms n, List.length_cons, valL_len]
    simp only [sumTo]
    omega

theorem servL_len (sc : List Int) (ms : List Md) : ∀ n, (servL sc ms n).length = sumTo (fun i => 1 + lsN ms (i * 4 + 1)) n
  | 0 => by simp [servL, sumTo]
  | n + 1 => by
    rw [servL_succ, List.length_append, servL_len sc ms n, List.length_cons, valL_len]
    simp only [sumTo]
    omega

theorem msgL_len (f : Nat) (sc : List Int) (ms : List Md) : ∀ n, (msgL (f + 1) sc ms n).length = sumTo (fun i => (oneL f sc ms i).length) n
  | 0 => by simp [msgL, sumTo]
  | n + 1 => by
    rw [msgL_succ, List.length_append, msgL_len f sc ms n]
    simp only [sumTo]

theorem enumL_tot {w : World} (sc : List Int) {a : Option Addr} {n c : Nat} {ms : List Md} (h : Src w 35 (.ls a n c ms)) (hn : Nm (.ls a n c ms)) : (enumL sc ms n).length ≤ totL ms := by
  have hl := src_len Tryz.underlying35 h
  rw [flds_enu] at hl
  have hl : ms.length = n * 4 := hl
  rw [enumL_len, ← tot_sum ms, hl]
  refine sumTo_block2 _ _ 4 n (fun i hi => ?_)
  obtain ⟨b, off, s0, a1, n1, k1, m1, a2, n2, k2, a3, n3, k3, ha, hlt, cc0, cc1, cc2, cc3, r1, t1, ln1, lm1, hz0, hst⟩ := enu_src h hn hi
  have h1 := src_n Tryz.underlying41 (by rw [flds_val]; decide) r1
  have h2 := totAt_ls ms (i * 4 + 1)
  have h3 := totAt_pos (ms := ms) (i := i * 4) (by omega)
  rw [lm1] at h2
  rw [ln1]
  simp only [sumTo, Nat.add_zero]
  omega

theorem servL_tot {w : World} (sc : List Int) {a : Option Addr} {n c : Nat} {ms : List Md} (h : Src w 60 (.ls a n c ms)) (hn : Nm (.ls a n c ms)) : (servL sc ms n).length ≤ totL ms := by
  have hl := src_len Tryz.underlying60 h
  rw [flds_ser] at hl
  have hl : ms.length = n * 4 := hl
  rw [servL_len, ← tot_sum ms, hl]
  refine sumTo_block2 _ _ 4 n (fun i hi => ?_)
  obtain ⟨b, off, s0, a1, n1, k1, m1, a2, n2, k2, a3, n3, k3, ha, hlt, cc0, cc1, cc2, cc3, r1, t1, ln1, lm1, hz0, hst⟩ := ser_src h hn hi
  have h1 := src_n Tryz.underlying157 (by rw [flds_met]; decide) r1
  have h2 := totAt_ls ms (i * 4 + 1)
  have h3 := totAt_pos (ms := ms) (i := i * 4) (by omega)
  rw [lm1] at h2
  rw [ln1]
  simp only [sumTo, Nat.add_zero]
  omega

theorem msgL_tot {w : World} : ∀ (f : Nat) (sc : List Int) {a : Option Addr} {n c : Nat} {ms : List Md}, Src w 34 (.ls a n c ms) → Nm (.ls a n c ms) → (msgL f sc ms n).length ≤ totL ms
  | 0, sc, a, n, c, ms, h, hn => by simp [msgL]
  | f + 1, sc, a, n, c, ms, h, hn => by
    have hl := src_len Tryz.underlying34 h
    rw [flds_msg] at hl
    have hl : ms.length = n * 11 := hl
    rw [msgL_len, ← tot_sum ms, hl]
    refine sumTo_block2 _ _ 11 n (fun i hi => ?_)
    obtain ⟨b, off, s0, a1, n1, k1, m1, a2, n2, k2, m2, a3, n3, k3, m3, a4, n4, k4, m4, a5, n5, k5, m5, a6, n6, k6, m6, a7, n7, k7, m7, a8, n8, k8, m8, a9, n9, k9, m9, a10, n10, k10, m10, ha, hlt, cc0, cc1, cc2, cc3, cc4, cc5, cc6, cc7, cc8, cc9, cc10, r1, r2, r3, r4, r5, r6, r7, r8, r9, r10, t1, ln1, lm1, t2, ln2, lm2, t3, ln3, lm3, t5, ln5, lm5, t6, ln6, lm6, hz0, hst⟩ := msg_src h hn hi
    have h0 := totAt_pos (ms := ms) (i := i * 11) (by omega)
    have g1 := totAt_ls ms (i * 11 + 1)
    have g2 := totAt_ls ms (i * 11 + 2)
    have g3 := totAt_ls ms (i * 11 + 3)
    have g5 := totAt_ls ms (i * 11 + 5)
    have g6 := totAt_ls ms (i * 11 + 6)
    have f1 := src_n Tryz.underlying33 (by rw [flds_field]; decide) r1
    have f5 := src_n Tryz.underlying33 (by rw [flds_field]; decide) r5
    have f6 := src_n Tryz.underlying37 (by rw [flds_oneof]; decide) r6
    have f2 := msgL_tot f (njoin sc (numsOf (strAt ms (i * 11)))) r2 t2
    have f3 := enumL_tot (njoin sc (numsOf (strAt ms (i * 11)))) r3 t3
    rw [lm1] at g1
    rw [lm2] at g2
    rw [lm3] at g3
    rw [lm5] at g5
    rw [lm6] at g6
    unfold oneL
    rw [ln1, lm1, ln2, lm2, ln3, lm3, ln5, lm5, ln6, lm6]
    simp only [List.length_cons, List.length_append, valL_len, sumTo, Nat.add_zero]
    omega

theorem cntG_sum (ms : List Md) : ∀ n, cntG ms n = sumTo (fun k => (pkL (numsOf (strAt ms (k * 11 + 1)))).length + (fileL ms k).length) n
  | 0 => rfl
  | n + 1 => by
    show cntG ms n + _ = sumTo _ n + _
    rw [cntG_sum ms n]

theorem cntG_tot {w : World} {a : Option Addr} {n c : Nat} {ms : List Md} (h : Src w 22 (.ls a n c ms)) (hn : Nm (.ls a n c ms)) : cntG ms n ≤ totL ms := by
  have hl := src_len Tryz.underlying22 h
  rw [flds_file] at hl
  have hl : ms.length = n * 11 := hl
  rw [cntG_sum, ← tot_sum ms, hl]
  refine sumTo_block2 _ _ 11 n (fun i hi => ?_)
  obtain ⟨b, off, s0, s1, s8, a2, n2, k2, m2, a3, n3, k3, m3, a4, n4, k4, m4, a5, n5, k5, m5, a6, n6, k6, m6, a7, n7, k7, m7, a9, n9, k9, m9, a10, n10, k10, m10, ha, hlt, cc0, cc1, cc2, cc3, cc4, cc5, cc6, cc7, cc8, cc9, cc10, hsrc, hnm, hz, ⟨es0, es1⟩, ⟨e4, f4, e5, f5, e6, f6, e7, f7⟩⟩ := file_src h hn hi
  have g1 := totAt_str (ms := ms) (i := i * 11 + 1) (by omega)
  have g4 := totAt_ls ms (i * 11 + 4)
  have g5 := totAt_ls ms (i * 11 + 5)
  have g6 := totAt_ls ms (i * 11 + 6)
  have g7 := totAt_ls ms (i * 11 + 7)
  rw [f4] at g4
  rw [f5] at g5
  rw [f6] at g6
  rw [f7] at g7
  have hp := pkL_len (numsOf (strAt ms (i * 11 + 1)))
  rw [numsOf_len] at hp
  have f4' := msgL_tot 64 (numsOf s1) hsrc.2.2.1 hnm.1
  have f5' := enumL_tot (numsOf s1) hsrc.2.2.2.1 hnm.2.1
  have f6' := servL_tot (numsOf s1) hsrc.2.2.2.2.1 hnm.2.2.1
  have f7' := src_n Tryz.underlying33 (by rw [flds_field]; decide) hsrc.2.2.2.2.2.1
  have hfl : (fileL ms i).length = (msgL 64 (numsOf s1) m4 n4).length + ((enumL (numsOf s1) m5 n5).length + ((servL (numsOf s1) m6 n6).length + n7)) := by
    simp only [fileL, es1, e4, f4, e5, f5, e6, f6, e7, f7, partL, List.length_append, valL_len]
  rw [hfl]
  simp only [sumTo, Nat.add_zero]
  omega

end Go.Proofs.YtafmoceinamcdaaGreat
