/- Chapter 7: pairs are sorted by the library. -/
import Derived.Test.YtkkojemnbcddfaaDoorZ4
import Derived.Test.YtkkojemnbcddfaaDoorZL
import Derived.Test.YtkkojemnbcddfaaDoorX3
namespace Go.Proofs.YtkkojemnbcddfaaDoor
open Go.RowKit Go.Shelf Go.Sort

def cmpI (x y : Int) : Int := if x < y then -1 else if y < x then 1 else 0
theorem isNaN_any (x : Int) (w : World) : Calls Tryd.prog 88 #[.int .i64 x] w fun e w' => e = .returned (.bool false) ∧ w = w' := by
  have n : (x != x) = false := by simp
  go_enter Tryd.func88, Tryd.ntmps88
  go_wp2
  go_ret
  exact ⟨rfl, rfl⟩
theorem compare_any (x y : Int) (w : World) : Calls Tryd.prog 67 #[.int .i64 x, .int .i64 y] w fun e w' => e = .returned (.int .i64 (cmpI x y)) ∧ w = w' := by
  by_cases h1 : x < y
  · have E := Lib.hid (show cmpI x y = -1 by unfold cmpI; rw [if_pos h1])
    have d1 : decide (x < y) = true := decide_eq_true h1
    clear h1
    go_enter Tryd.func67, Tryd.ntmps67
    go_wp2_with (go_at_call 88; refine (isNaN_any _ _).mono ?_; rintro e w' ⟨rfl, rfl⟩)
    go_ret
    exact ⟨rint E.out.symm, rfl⟩
  · have d1 : decide (x < y) = false := decide_eq_false h1
    by_cases h2 : y < x
    · have E := Lib.hid (show cmpI x y = 1 by unfold cmpI; rw [if_neg h1, if_pos h2])
      have d2 : decide (y < x) = true := decide_eq_true h2
      have d3 : decide (x > y) = true := decide_eq_true h2
      clear h1 h2
      go_enter Tryd.func67, Tryd.ntmps67
      go_wp2_with (go_at_call 88; refine (isNaN_any _ _).mono ?_; rintro e w' ⟨rfl, rfl⟩)
      go_ret
      exact ⟨rint E.out.symm, rfl⟩
    · have E := Lib.hid (show cmpI x y = 0 by unfold cmpI; rw [if_neg h1, if_neg h2])
      have d2 : decide (y < x) = false := decide_eq_false h2
      have d3 : decide (x > y) = false := decide_eq_false h2
      clear h1 h2
      go_enter Tryd.func67, Tryd.ntmps67
      go_wp2_with (go_at_call 88; refine (isNaN_any _ _).mono ?_; rintro e w' ⟨rfl, rfl⟩)
      go_ret
      exact ⟨rint E.out.symm, rfl⟩
def encP (x : Pr) : List Value := [.int .i64 x.1, .int .i64 x.2]
def cfP (x y : Pr) : Int := cmpI x.1 y.1
theorem ltP (x y : Pr) : ltOf cfP x y = decide (x.1 < y.1) := by
  unfold ltOf cfP cmpI
  by_cases h1 : x.1 < y.1
  · simp [h1]
  · by_cases h2 : y.1 < x.1 <;> simp [h1, h2]
theorem swoP : SWO (ltOf cfP) where
  irrefl x := by rw [ltP]; simp
  trans x y z h1 h2 := by rw [ltP] at *; simp at *; omega
  ntrans x y z h1 h2 := by rw [ltP] at *; simp at *; omega
theorem encP_get (x : Pr) (j : Nat) (h : j < 2) : (encP x)[j]! = if j = 0 then .int .i64 x.1 else .int .i64 x.2 := by
  obtain rfl | rfl : j = 0 ∨ j = 1 := by omega
  · rfl
  · rfl
theorem getB (qs : List Pr) (k : Nat) (h : k < qs.length) : (qs.toArray)[k]! = nthP qs k := by
  rw [getElem!_pos _ k (by simpa using h)]
  simp [nthP, List.getElem?_eq_getElem h]
theorem flat_prs (qs : List Pr) : flatK encP 2 qs.toArray = (prs qs).toArray := by
  refine ext_get! (by rw [size_flatK]; simp [prs_len]) fun t ht => ?_
  rw [size_flatK] at ht
  have ht : t < qs.length * 2 := by simpa using ht
  rw [get_flatK _ _ _ _ (by simpa using ht), getB _ _ (by omega), encP_get _ _ (by omega)]
  have e := prs_get qs (t / 2) (by omega)
  rw [getElem!_pos _ t (by simp [prs_len]; omega)]
  rw [List.getElem_toArray]
  obtain h0 | h0 : t % 2 = 0 ∨ t % 2 = 1 := by omega
  · rw [if_pos h0]
    have e1 := e.1
    rw [show t / 2 * 2 = t by omega, List.getElem?_eq_getElem (by rw [prs_len]; omega)] at e1
    injection e1 with e1
    exact e1.symm
  · rw [if_neg (by omega)]
    have e1 := e.2
    rw [show t / 2 * 2 + 1 = t by omega, List.getElem?_eq_getElem (by rw [prs_len]; omega)] at e1
    injection e1 with e1
    exact e1.symm
theorem holds_blk {w : World} {g : Nat} {cur : Array Value} {e : TypeId} {xs : List Value} (hb : w.heap[g]? = some (.cells cur e (0, 0))) (ht : cur.toList.take xs.length = xs) : Holds id w g 0 xs.toArray := by
  intro j hj
  have hj' : j < xs.length := by simpa using hj
  refine ⟨?_, by simp [World.frozen?, hb]⟩
  have h1 : (cur.toList.take xs.length)[j]? = xs[j]? := by rw [ht]
  rw [List.getElem?_take_of_lt hj'] at h1
  simp only [World.cell?, hb, Nat.zero_add]
  simp only [Option.isSome_none, Bool.false_eq_true, if_false]
  rw [← Array.getElem?_toList, h1]
  simp [hj']
theorem heap_put {w : World} {g n : Nat} {os : Array Obj} {cur : Array Value} {e : TypeId} {fr : Nat × Nat} (d : Array Value) (hb : w.heap[g]? = some (.cells cur e fr)) :
    (grow (putRow id (Sort.ahead w n) g 0 d) os).heap[g]? = some (.cells (putCells id 0 d cur) e fr) := by
  have hg : g < w.heap.size := (Array.getElem?_eq_some_iff.1 hb).1
  rw [heap_grow_old _ _ (by simpa using hg)]
  simp [putRow, mapBlock, Sort.ahead, Array.getElem?_modify, hb, onCells]
theorem out_put {w : World} {g n : Nat} {os : Array Obj} (d : Array Value) : Out g (g + 1) w (grow (putRow id (Sort.ahead w n) g 0 d) os) := by
  refine ⟨rfl, rfl, rfl, by simp, fun k hk hne => ?_⟩
  rw [heap_grow_old _ _ (by simpa using hk)]
  have : g ≠ k := fun e => hne (by omega)
  simp [putRow, mapBlock, Sort.ahead, Array.getElem?_modify, this]
theorem take_put (cur : Array Value) (xs : List Value) (h : xs.length ≤ cur.size) : (putCells id 0 xs.toArray cur).toList.take xs.length = xs := by
  apply List.ext_getElem?
  intro j
  by_cases hj : j < xs.length
  · rw [List.getElem?_take_of_lt hj, Array.getElem?_toList]
    simp [putCells, hj, show j < cur.size by omega]
  · rw [List.getElem?_take_eq_none (by omega), List.getElem?_eq_none (by omega)]
set_option maxRecDepth 100000 in
set_option maxHeartbeats 1000000 in
theorem pairsLess_any (x y : Pr) (W : World) : Calls Tryd.prog 66 #[.agg #[.int .i64 x.1, .int .i64 x.2], .agg #[.int .i64 y.1, .int .i64 y.2]] W fun e w' => e = .returned (.int .i64 (cfP x y)) ∧ ∃ q os', w' = grow (W.drewN q) os' := by
  have hcon := Lib.hid (fun W' => compare_any x.1 y.1 W')
  obtain ⟨r, hr⟩ : ∃ r, Hid (cfP x y = r) := ⟨_, Lib.hid rfl⟩
  have e : cmpI x.1 y.1 = r := hr.out
  rw [hr.out]
  rw [e] at hcon
  clear hr e
  go_enter Tryd.func66, Tryd.ntmps66
  go_wp2_with (go_at_call 67; refine (hcon.out _).mono ?_; rintro e w' ⟨rfl, rfl⟩)
  go_ret
  exact ⟨rfl, 0, _, by rw [alloc_eq_grow, alloc_eq_grow, grow_grow]; rfl⟩
set_option maxRecDepth 100000 in
set_option maxHeartbeats 4000000 in
theorem sortPairs_any {w : World} {lo : Nat} {A : Option Addr} {n c : Nat} {qs : List Pr} (h : w.ownsRow lo 34 2 (.slice A n c) n (prs qs)) (hn : n = qs.length) (hl : n ≤ 600) :
    Calls Tryd.prog 65 #[.slice A n c, .func (.func 66) #[] #[]] w fun e w' => (e = .returned (.tuple #[]) ∧ ∃ qs', qs'.Perm qs ∧ qs'.Pairwise (fun x y => x.1 ≤ y.1) ∧ w'.ownsRow lo 34 2 (.slice A n c) n (prs qs')) ∧ Below lo w w' := by
  by_cases h0 : n = 0
  · subst h0
    have e : qs = [] := List.eq_nil_of_length_eq_zero hn.symm
    subst e
    have hc := AnyF.slices_SortFunc_none (P := Tryd.prog) (ρ := sortPr_ren) { sortPr with } A c (.func (.func 66) #[] #[]) w
    exact hc.mono fun e w' ⟨he, hw⟩ => by subst hw; exact ⟨⟨he, [], List.Perm.refl _, List.Pairwise.nil, h⟩, Below.refl _ _⟩
  · rcases id h.2 with ⟨_, h1⟩ | ⟨g, cap, cur, hv, hb, hg, hnc, hcap, hsz, ht⟩
    · exact absurd h1 h0
    · obtain ⟨rfl, _, rfl⟩ := sl_eq hv
      have hcl : cur.toList.take (prs qs).length = prs qs := by rw [prs_len, ← hn]; exact ht
      have HK : HoldsK encP 2 w g 0 qs.toArray := by
        unfold HoldsK
        rw [flat_prs]
        exact holds_blk hg hcl
      have eg : ∀ args w, (callFunc 66 args).run Tryd.prog w = .ok (.enter 66 args) w := enters_of Tryd.func66 (by kernel_rfl) rfl
      have hcon := AnyQ.slices_SortFunc sortPr 2 Tryd.isAgg34 Tryd.sizeOf34 encP (fun _ => rfl) (fun x v hv => by simp [encP] at hv; rcases hv with rfl | rfl <;> rfl) cfP swoP 66 #[] g 0 c qs.toArray w eg (fun m os dk _ x y => pairsLess_any x y _) HK (Array.getElem?_eq_some_iff.1 hg).1 (by simp; omega)
      have es : qs.toArray.size = n := by simp [hn]
      rw [es] at hcon
      refine hcon.mono ?_
      rintro e w' ⟨rfl, d', m, os, hp, hs, rfl⟩
      obtain ⟨p1, _, p3⟩ := hp
      rw [es] at p1
      have hl' : d'.toList.length = n := by simpa using p1
      have perm : d'.toList.Perm qs := by
        have a1 : d'.extract 0 n = d' := by rw [← p1]; simp
        have a2 : qs.toArray.extract 0 n = qs.toArray := by rw [← es]; simp
        rw [a1, a2] at p3
        simpa using p3
      have srt : d'.toList.Pairwise (fun x y => x.1 ≤ y.1) := by
        rw [List.pairwise_iff_getElem]
        intro i j hi hj hij
        have := hs i j (Nat.zero_le _) hij (by omega)
        rw [ltP] at this
        have this := of_decide_eq_false this
        rw [getElem!_pos d' i (by simpa using hi), getElem!_pos d' j (by simpa using hj)] at this
        simp only [Array.getElem_toList]
        omega
      have fl : flatK encP 2 d' = (prs d'.toList).toArray := by have := flat_prs d'.toList; simpa using this
      refine ⟨⟨rfl, d'.toList, perm, srt, ?_⟩, ?_⟩
      · unfold sortWorldK putRowK
        rw [fl]
        refine ⟨by rw [prs_len, hl'], .inr ⟨g, c, _, rfl, hb, heap_put _ hg, hnc, hcap, by simp [putCells, hsz], ?_⟩⟩
        have tp := take_put cur (prs d'.toList) (by rw [prs_len, hl', hsz]; omega)
        rw [prs_len, hl'] at tp
        exact tp
      · unfold sortWorldK putRowK
        have o := out_put (w := w) (g := g) (n := m) (os := os) (flatK encP 2 d')
        exact o.to_below hb (by have := (Array.getElem?_eq_some_iff.1 hg).1; omega)
end Go.Proofs.YtkkojemnbcddfaaDoor
