/- ClassOf, IsShown: the program's and the model's. -/
import Derived.Test.YtmcmfklkljehiaaGreatY09
import Derived.Deep.RegionHeld3
namespace Go.Proofs.YtmcmfklkljehiaaGreat
open Go.RowKit Go.Maps

/-- e comes next; nothing but the iterator's block turns -/
structure Come (w : World) (r b since : Nat) (seen : Array Nat) (es : Array MapEntry) (clock : Nat) (e : MapEntry) (w' : World) : Prop where
  mem : e ∈ es.toList
  fresh : seen.contains e.born = false
  iter : w'.heap[r]? = some (.mapIter (some b) since (seen.push e.born) clock)
  other : ∀ i, i ≠ r → w'.heap[i]? = w.heap[i]?
  size : w'.heap.size = w.heap.size
  os : w'.os = w.os
  tape : w'.tape = w.tape
  output : w'.output = w.output
  left : e ∈ (leftOf es seen).toList
def NoneLeft (es : Array MapEntry) (seen : Array Nat) : Prop := (leftOf es seen).size = 0

/-- a step of a range over a map that stands -/
theorem wpList_next_at {P : Program} {w : World} {ops : Array Oper} {rest : List Oper} {o : Oper} {a : Act} {Q : Exit → Act → World → Prop} (hg : o.guard = none) (it : Operand) (hop : o.op = Op.next it false)
    (r b since c0 : Nat) (seen : Array Nat) (es : Array MapEntry) (clock : Nat) (hit : a.eval it = .pointer (some ⟨r, 0, none⟩)) (hr : w.heap[r]? = some (.mapIter (some b) since seen c0)) (hb : w.heap[b]? = some (.map es clock))
    (hold : ∀ x ∈ es.toList, x.born < since) (hsc : since ≤ c0)
    (hDone : NoneLeft es seen → wpList P ops Q rest (a.put o.dst (.tuple #[.bool false])) w)
    (hMore : ∀ e w', Come w r b since seen es clock e w' → wpList P ops Q rest (a.put o.dst (.tuple #[.bool true, e.key, e.val])) w') :
    wpList P ops Q (o :: rest) a w := by
  refine wpList_plain hg fun K' hK' => ?_
  unfold Oper.wp
  rcases run_next_at (P := P) w o.type r b since c0 seen es clock hr hb hold hsc with ⟨h0, hrun⟩ | ⟨e, he, w1, hal, hrun⟩
  · simp [execOp, hop, hit, hrun, Result.andThen]
    exact hK' _ _ (hDone h0)
  · simp [execOp, hop, hit, hrun, Result.andThen]
    obtain ⟨h1, h2⟩ := mem_left he
    have hr1 : w1.heap[r]? = some (.mapIter (some b) since seen c0) := by rcases hal with rfl | rfl <;> exact hr
    have hset := Go.MapKept.heap_set (o' := .mapIter (some b) since (seen.push e.born) clock) hr1
    refine hK' _ _ (hMore e _ ⟨h1, h2, hset.1, fun i hi => (hset.2 i hi).trans ?_, ?_, ?_, ?_, ?_, he⟩)
    · rcases hal with rfl | rfl <;> rfl
    · rcases hal with rfl | rfl <;> simp [Go.ChangeMaps.setBlock]
    · rcases hal with rfl | rfl <;> rfl
    · rcases hal with rfl | rfl <;> rfl
    · rcases hal with rfl | rfl <;> rfl

theorem wpList_range_at {P : Program} {w : World} {ops : Array Oper} {rest : List Oper} {o : Oper} {a : Act} {Q : Exit → Act → World → Prop} (hg : o.guard = none) (x : Operand) (t : TypeId) (hop : o.op = Op.range t x)
    (k e : TypeId) (ht : P.underlying t = some (.map k e)) (b : Nat) (es : Array MapEntry) (clock : Nat) (hx : a.eval x = .map (some b)) (hb : w.heap[b]? = some (.map es clock))
    (h : wpList P ops Q rest (a.put o.dst (.pointer (some ⟨w.heap.size, 0, none⟩))) (w.alloc (.mapIter (some b) clock #[] clock))) :
    wpList P ops Q (o :: rest) a w := by
  refine wpList_plain hg fun K' hK' => ?_
  unfold Oper.wp
  simp [execOp, hop, hx, run_range_map w t k e b es clock ht hb, Result.andThen]
  exact hK' _ _ h

theorem range_left {w : World} {b r since c0 clock : Nat} {seen : Array Nat} {es : Array MapEntry} (hb : w.heap[b]? = some (.map es clock)) (hr : w.heap[r]? = some (.mapIter (some b) since seen c0)) : w.rangeLeft b r = (leftOf es seen).size := by
  simp [World.rangeLeft, hb, hr]

/-- what has been found among the entries that have come -/
def Best (c : Int) (es : Array MapEntry) (seen : Array Nat) (t k : Int) : Prop :=
  (∀ e ∈ es.toList, seen.contains e.born = true → ∀ row : Row4, e.key = rKey row → e.val = rVal row → fits c row = true → t ≤ row.2.2.1) ∧
  ((t = 9223372036854775807 ∧ k = 0) ∨ ∃ row ∈ rulesL, fits c row = true ∧ t = row.2.2.1 ∧ k = row.2.2.2)

theorem rKey_inj {p q : Row4} (h : rKey p = rKey q) : p.1 = q.1 ∧ p.2.1 = q.2.1 := by simpa [rKey] using h
theorem rVal_inj {p q : Row4} (h : rVal p = rVal q) : p.2.2.1 = q.2.2.1 ∧ p.2.2.2 = q.2.2.2 := by simpa [rVal] using h
theorem fits_iff (c : Int) (r : Row4) : fits c r = true ↔ r.1 ≤ c ∧ c ≤ r.2.1 := by simp [fits]
theorem Best.start (c : Int) (es : Array MapEntry) : Best c es #[] 9223372036854775807 0 := ⟨fun e _ h => by simp at h, .inl ⟨rfl, rfl⟩⟩
theorem Best.range {c : Int} {es : Array MapEntry} {seen : Array Nat} {t k : Int} (h : Best c es seen t k) : 0 ≤ t ∧ t ≤ 9223372036854775807 ∧ 0 ≤ k ∧ k ≤ 22 := by
  rcases h.2 with ⟨rfl, rfl⟩ | ⟨row, hr, _, rfl, rfl⟩
  · omega
  · have : ∀ r ∈ rulesL, (0 ≤ r.2.2.1 ∧ r.2.2.1 ≤ 17) ∧ 0 ≤ r.2.2.2 ∧ r.2.2.2 ≤ 22 := by decide
    have := this row hr
    omega
theorem contains_push' (seen : Array Nat) (x y : Nat) : (seen.push x).contains y = (seen.contains y || y == x) := by
  rw [Bool.eq_iff_iff]; simp [Array.mem_push]
theorem born_one {es : Array MapEntry} (hn : (es.toList.map (·.born)).Nodup) {x y : MapEntry} (hx : x ∈ es.toList) (hy : y ∈ es.toList) (h : x.born = y.born) : x = y := by
  have h1 := find_born x es.toList hn hx
  have h2 := find_born y es.toList hn hy
  rw [h] at h1
  rw [h1] at h2
  exact Option.some.inj h2
/-- the entry that came does not fit, or comes too late -/
theorem Best.keep {c : Int} {es : Array MapEntry} {seen : Array Nat} {t k : Int} (h : Best c es seen t k) (hn : (es.toList.map (·.born)).Nodup) {e : MapEntry} (he : e ∈ es.toList) {row : Row4} (h1 : e.key = rKey row) (h2 : e.val = rVal row)
    (hno : fits c row = false ∨ t ≤ row.2.2.1) : Best c es (seen.push e.born) t k := by
  refine ⟨fun x hx hs r' k1 k2 hf => ?_, h.2⟩
  rw [contains_push', Bool.or_eq_true, beq_iff_eq] at hs
  rcases hs with hs | hs
  · exact h.1 x hx hs r' k1 k2 hf
  · obtain rfl := born_one hn hx he hs
    have e1 := rKey_inj (h1.symm.trans k1)
    have e2 := rVal_inj (h2.symm.trans k2)
    rcases hno with hno | hno
    · rw [fits_iff] at hf
      have : fits c row = true := by rw [fits_iff]; omega
      rw [this] at hno; cases hno
    · omega
theorem Best.turn {c : Int} {es : Array MapEntry} {seen : Array Nat} {t k : Int} (h : Best c es seen t k) (hn : (es.toList.map (·.born)).Nodup) {e : MapEntry} (he : e ∈ es.toList) {row : Row4} (hr : row ∈ rulesL) (h1 : e.key = rKey row) (h2 : e.val = rVal row)
    (hf : fits c row = true) (hlt : row.2.2.1 < t) : Best c es (seen.push e.born) row.2.2.1 row.2.2.2 := by
  refine ⟨fun x hx hs r' k1 k2 hf' => ?_, .inr ⟨row, hr, hf, rfl, rfl⟩⟩
  rw [contains_push', Bool.or_eq_true, beq_iff_eq] at hs
  rcases hs with hs | hs
  · have := h.1 x hx hs r' k1 k2 hf'
    omega
  · obtain rfl := born_one hn hx he hs
    have e2 := rVal_inj (h2.symm.trans k2)
    omega

/-- turns rise along the list, and those of one turn have no character in common, or the same class -/
theorem rules_turns : rulesL.Pairwise (fun p q => p.2.2.1 < q.2.2.1 ∨ (p.2.2.1 = q.2.2.1 ∧ (p.2.2.2 = q.2.2.2 ∨ p.2.1 < q.1 ∨ q.2.1 < p.1))) := by decide

theorem first_best (c : Int) : ∀ (l : List Row4), l.Pairwise (fun p q => p.2.2.1 < q.2.2.1 ∨ (p.2.2.1 = q.2.2.1 ∧ (p.2.2.2 = q.2.2.2 ∨ p.2.1 < q.1 ∨ q.2.1 < p.1))) → ∀ row ∈ l, fits c row = true → (∀ r ∈ l, fits c r = true → row.2.2.1 ≤ r.2.2.1) →
    ((l.find? (fits c)).map (fun r => r.2.2.2)).getD 0 = row.2.2.2
  | [], _, row, h, _, _ => by cases h
  | r :: l, hp, row, hm, hf, hb => by
    obtain ⟨h1, h2⟩ := List.pairwise_cons.1 hp
    rw [find_if]
    by_cases hr : r.1 ≤ c ∧ c ≤ r.2.1
    · rw [if_pos hr]
      rcases List.mem_cons.1 hm with rfl | hm'
      · rfl
      · have := hb r (by simp) ((fits_iff c r).2 hr)
        rw [fits_iff] at hf
        rcases h1 row hm' with h3 | ⟨_, h3⟩ <;> omega
    · rw [if_neg hr]
      rcases List.mem_cons.1 hm with rfl | hm'
      · rw [fits_iff] at hf; exact absurd hf hr
      · exact first_best c l h2 row hm' hf (fun q hq hfq => hb q (by simp [hq]) hfq)

theorem find_none (c : Int) (l : List Row4) (h : ∀ r ∈ l, fits c r = false) : ((l.find? (fits c)).map (fun r => r.2.2.2)).getD 0 = 0 := by
  rw [List.find?_eq_none.2 (fun r hr => by rw [h r hr]; decide)]; rfl

theorem Best.done {c : Int} {es : Array MapEntry} {clock : Nat} {seen : Array Nat} {t k : Int} {w : World} {b : Nat} (h : Best c es seen t k) (hm : Mp w b (rulesL.map rEnt) (fun j => decide (j < rulesL.length)) es clock) (h0 : (leftOf es seen).size = 0) : k = classN c := by
  rw [← classF_eq]
  have hall : ∀ row ∈ rulesL, fits c row = true → t ≤ row.2.2.1 := by
    intro row hr hf
    obtain ⟨j, hj, hjr⟩ := List.getElem_of_mem hr
    obtain ⟨e, he, h1, h2⟩ := hm.all j (rEnt row) (by rw [List.getElem?_map, List.getElem?_eq_getElem hj, hjr]; rfl) (by simp [hj])
    exact h.1 e he (all_seen es seen h0 e he) row h1 h2 hf
  rcases h.2 with ⟨rfl, rfl⟩ | ⟨row, hr, hf, rfl, rfl⟩
  · unfold classF
    rw [find_none]
    intro r hr
    cases hf : fits c r
    · rfl
    · have := hall r hr hf
      have : ∀ r ∈ rulesL, r.2.2.1 ≤ 17 := by decide
      have := this r hr
      omega
  · exact (first_best c rulesL rules_turns row hr hf hall).symm

set_option maxRecDepth 100000 in
set_option maxHeartbeats 1000000 in
theorem classBy_any (c : Int) (b : Nat) (w : World) (es : Array MapEntry) (clock : Nat) (hm : Mp w b (rulesL.map rEnt) (fun j => decide (j < rulesL.length)) es clock) :
    Calls Tryz.prog 46 #[.map (some b), .int .i64 c] w fun e w' => e = .returned (.int .i64 (classN c)) ∧ Below w.heap.size w w' := by
  have HM := Lib.hid hm
  have hb := hm.lt
  clear hm
  have b0 := Lib.hid ((Below.refl w.heap.size w).alloc (Nat.le_refl _) (.cells #[.int .i64 9223372036854775807, .int .i64 0] 111))
  have HB := Lib.hid ((Below.heap_alloc w (.cells #[.int .i64 9223372036854775807, .int .i64 0] 111) b hb).trans HM.out.heap)
  have k0 := Lib.hid (Blk.new w 111 #[.int .i64 9223372036854775807, .int .i64 0])
  go_enter Tryz.func46, Tryz.ntmps46
  go_wp2_with (first
    | (at_range; refine wpList_range_at rfl _ _ rfl _ _ Tryz.underlying81 b es clock rfl HB.out ?_)
    | go_in)
  go_frame
  generalize hX : w.alloc (.cells #[.int .i64 9223372036854775807, .int .i64 0] 111) = X at *
  have szX : X.heap.size = w.heap.size + 1 := by rw [← hX]; simp
  clear hX
  rw [szX]
  go_loopw [11] (fun _ wr => ∃ (seen : Array Nat) (c0 : Nat) (t k : Int), Hid (wr.heap[w.heap.size + 1]? = some (.mapIter (some b) clock seen c0)) ∧ Hid (clock ≤ c0) ∧ Hid (wr.heap[b]? = some (.map es clock)) ∧
    Hid (Blk wr w.heap.size 111 #[.int .i64 t, .int .i64 k]) ∧ Hid (Below w.heap.size w wr) ∧ Hid (Best c es seen t k)) (fun _ wr => wr.rangeLeft b (w.heap.size + 1))
  case atStart =>
    refine ⟨#[], clock, _, _, Lib.hid ?_, Lib.hid (Nat.le_refl _), Lib.hid ((Below.heap_alloc X _ b (by omega)).trans HB.out), Lib.hid (k0.out.alloc _), Lib.hid (b0.out.alloc (by omega) _), Lib.hid (Best.start c es)⟩
    rw [← szX]; exact (MapKept.heap_alloc X _).1
  case round =>
    obtain ⟨seen, c0, t, k, hr, hc0, hmb, hk, hbl, hbest⟩ := hrel
    go_wp2_with (first
      | (at_next; refine wpList_next_at rfl _ rfl (w.heap.size + 1) b clock c0 seen es clock rfl hr.out hmb.out HM.out.born hc0.out ?_ ?_)
      | go_in)
    · intro h0
      have HK := Lib.hid (hbest.out.done HM.out h0)
      have hd1 := hk.out.cell 1 (u := .int .i64 k) rfl
      clear h0
      go_wp2
      go_ret
      exact ⟨rint HK.out, hbl.out⟩
    · intro e W2 hc
      obtain ⟨j, ent, hj, _, hkey, hval⟩ := HM.out.mem e hc.mem
      obtain ⟨row, hrow, rfl⟩ : ∃ row ∈ rulesL, ent = rEnt row := by
        obtain ⟨row, h1, h2⟩ := List.mem_map.1 (List.mem_of_getElem? hj)
        exact ⟨row, h1, h2.symm⟩
      have hkey : e.key = rKey row := hkey
      have hval : e.val = rVal row := hval
      have hblw := hbl.out
      have hkw := hk.out
      have hsz := hkw.lt
      have r2 := Lib.hid hc.iter
      have b2 := Lib.hid ((hc.other b (by omega)).trans hmb.out)
      have k2 : Blk W2 w.heap.size 111 #[.int .i64 t, .int .i64 k] := (hc.other w.heap.size (by omega)).trans hkw
      have bl2 := Lib.hid (show Below w.heap.size w W2 from ⟨hc.os.trans hblw.os, hc.tape.trans hblw.tape, hc.output.trans hblw.output, by rw [hc.size]; exact hblw.size, fun i hi => (hc.other i (by omega)).trans (hblw.block i hi)⟩)
      have hen := run_entry_at (P := Tryz.prog) W2 (w.heap.size + 1) b clock seen es clock e r2.out b2.out hc.mem HM.out.nodup
      rw [hkey, hval] at hen ⊢
      have HKEY := Lib.hid hkey
      have HVAL := Lib.hid hval
      have HROW := Lib.hid hrow
      have HC := Lib.hid hc
      obtain ⟨rf, rl, rt, rk⟩ := row
      have gt := hbest.out.range
      have szk := k2.lt
      simp only [rKey, rVal] at hen ⊢
      have k3 := ((k2.alloc (.cells #[.int .i64 rf, .int .i64 rl] 109)).alloc (.cells #[.int .i64 rt, .int .i64 rk] 111)).alloc (.cells #[.int .i64 rf, .int .i64 rl] 2)
      have hd0 := k3.cell 0 (u := .int .i64 t) rfl
      have hd1 := k3.cell 1 (u := .int .i64 k) rfl
      have hf0 := k3.frozen 0
      have hf1 := k3.frozen 1
      have K3 := Lib.hid k3
      have hl := HC.out.left
      have HL := Lib.hid (left_shrinks es seen e hl)
      have r3 := Lib.hid (((Below.heap_alloc W2 (.cells #[.int .i64 rf, .int .i64 rl] 109) (w.heap.size + 1) (Array.getElem?_eq_some_iff.1 r2.out).1).trans r2.out))
      have bl3 := Lib.hid (((bl2.out.alloc bl2.out.size (.cells #[.int .i64 rf, .int .i64 rl] 109)).alloc (by have := bl2.out.size; simp; omega) (.cells #[.int .i64 rt, .int .i64 rk] 111)).alloc (by have := bl2.out.size; simp; omega) (.cells #[.int .i64 rf, .int .i64 rl] 2))
      clear hblw hkw hj hrow hkey hval hc0 hbl hc k2 k3 hl
      have hml : ∀ (i : Nat) (o : Obj), W2.heap[i]? = some o → (((W2.alloc (.cells #[.int .i64 rf, .int .i64 rl] 109)).alloc (.cells #[.int .i64 rt, .int .i64 rk] 111)).alloc (.cells #[.int .i64 rf, .int .i64 rl] 2)).heap[i]? = some o := by
        intro i o h
        have hlt := (Array.getElem?_eq_some_iff.1 h).1
        rw [Below.heap_alloc _ _ i (by simp; omega), Below.heap_alloc _ _ i (by simp; omega), Below.heap_alloc _ _ i hlt, h]
      have R3 := Lib.hid (hml _ _ r2.out)
      have B3 := Lib.hid (hml _ _ b2.out)
      clear hml r3
      generalize hY : (((W2.alloc (.cells #[.int .i64 rf, .int .i64 rl] 109)).alloc (.cells #[.int .i64 rt, .int .i64 rk] 111)).alloc (.cells #[.int .i64 rf, .int .i64 rl] 2)) = Y at *
      by_cases hfit : rf ≤ c ∧ c ≤ rl
      · have hs : spans c [rf, rl] = true := by simp [spans]; exact hfit
        have HF := Lib.hid ((fits_iff c (rf, rl, rt, rk)).2 hfit)
        clear hfit
        subst hY
        by_cases hlt : rt < t
        · go_wp2_with (go_at_call 47; refine (within_lit2 _ _ _ _ _ _ (by simp)).mono ?_; rintro e w' ⟨rfl, rfl⟩)
          go_roundw
          case rel => exact ⟨seen.push e.born, clock, rt, rk, Lib.hid (by rw [heap_setCell_other _ _ _ _ (by simp), heap_setCell_other _ _ _ _ (by simp)]; exact R3.out), Lib.hid (Nat.le_refl _), Lib.hid (by rw [heap_setCell_other _ _ _ _ (by simp; omega), heap_setCell_other _ _ _ _ (by simp; omega)]; exact B3.out), Lib.hid ((K3.out.set 0 _).set 1 _), Lib.hid ((bl3.out.setCell (by simp) _).setCell (by simp) _), Lib.hid (hbest.out.turn HM.out.nodup HC.out.mem HROW.out HKEY.out HVAL.out HF.out hlt)⟩
          case measure => rw [range_left (by rw [heap_setCell_other _ _ _ _ (by simp; omega), heap_setCell_other _ _ _ _ (by simp; omega)]; exact B3.out) (by rw [heap_setCell_other _ _ _ _ (by simp), heap_setCell_other _ _ _ _ (by simp)]; exact R3.out), range_left hmb.out hr.out]; exact HL.out
        · go_wp2_with (go_at_call 47; refine (within_lit2 _ _ _ _ _ _ (by simp)).mono ?_; rintro e w' ⟨rfl, rfl⟩)
          go_roundw
          case rel => exact ⟨seen.push e.born, clock, t, k, Lib.hid R3.out, Lib.hid (Nat.le_refl _), B3, K3, bl3, Lib.hid (hbest.out.keep HM.out.nodup HC.out.mem HKEY.out HVAL.out (.inr (by omega)))⟩
          case measure => rw [range_left B3.out R3.out, range_left hmb.out hr.out]; exact HL.out
      · have hs : spans c [rf, rl] = false := by simp [spans]; omega
        have HF := Lib.hid hfit
        clear hfit
        subst hY
        go_wp2_with (go_at_call 47; refine (within_lit2 _ _ _ _ _ _ (by simp)).mono ?_; rintro e w' ⟨rfl, rfl⟩)
        go_roundw
        case rel => exact ⟨seen.push e.born, clock, t, k, Lib.hid R3.out, Lib.hid (Nat.le_refl _), B3, K3, bl3, Lib.hid (hbest.out.keep HM.out.nodup HC.out.mem HKEY.out HVAL.out (.inl (by rw [Bool.eq_false_iff, Ne, fits_iff]; exact HF.out)))⟩
        case measure => rw [range_left B3.out R3.out, range_left hmb.out hr.out]; exact HL.out
end Go.Proofs.YtmcmfklkljehiaaGreat

namespace Go.Proofs.YtmcmfklkljehiaaGreat
open Go.RowKit Go.Maps

theorem isChrR {c : Int} (h : isChr c = true) : 0 ≤ c ∧ c ≤ 1114111 := by simp [isChr] at h; omega

set_option maxRecDepth 100000 in
set_option maxHeartbeats 1000000 in
theorem l2Ascii_any (c : Int) (w : World) (h0 : 0 ≤ c) (h1 : c < 192) :
    Calls Tryz.prog 83 #[.int .i64 c] w fun e w' => e = .returned (.int .i64 (classN c)) ∧ w = w' := by
  go_enter Tryz.func83, Tryz.ntmps83
  go_wp2_with (go_at_call 54; refine (l1In_any _ _ _ _).mono ?_; rintro e w' ⟨rfl, rfl⟩)
  all_goals
    go_ret
    refine ⟨rint ?_, rfl⟩
    try simp only [beq_iff_eq, beq_eq_false_iff_ne, ne_eq] at *
    unfold classN
    repeat (first | rw [if_pos (by omega)] | rw [if_neg (by omega)])

set_option maxRecDepth 100000 in
set_option maxHeartbeats 1000000 in
theorem l2Class_any (c : Int) (w : World) (h0 : 0 ≤ c) :
    Calls Tryz.prog 55 #[.int .i64 c] w fun e w' => e = .returned (.int .i64 (classN c)) ∧ w = w' := by
  by_cases h1 : c < 192
  · go_enter Tryz.func55, Tryz.ntmps55
    go_wp2_with (go_at_call 83; refine (l2Ascii_any _ _ h0 h1).mono ?_; rintro e w' ⟨rfl, rfl⟩)
    go_ret
    exact ⟨rfl, rfl⟩
  · go_enter Tryz.func55, Tryz.ntmps55
    go_wp2_with (go_at_call 54; refine (l1In_any _ _ _ _).mono ?_; rintro e w' ⟨rfl, rfl⟩)
    all_goals
      go_ret
      refine ⟨rint ?_, rfl⟩
      try simp only [beq_iff_eq, beq_eq_false_iff_ne, ne_eq] at *
      unfold classN
      repeat (first | rw [if_pos (by omega)] | rw [if_neg (by omega)])
    all_goals omega

def classC (c : Int) : Int := if isChr c = true then 0 else 3
def classV (c : Int) : Int := if isChr c = true then classN c else 0
theorem class_no {c : Int} (h : isChr c = false) : classC c = 3 ∧ classV c = 0 := by unfold classC classV; simp [h]
theorem class_yes {c : Int} (h : isChr c = true) : classC c = 0 ∧ classV c = classN c := by unfold classC classV; simp [h]



end Go.Proofs.YtmcmfklkljehiaaGreat
