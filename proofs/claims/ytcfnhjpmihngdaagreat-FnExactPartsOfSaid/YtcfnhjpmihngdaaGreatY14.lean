/- Chapter 3: faults, the string of a text, the classes of a text. -/
import Derived.Test.YtcfnhjpmihngdaaGreatY13
import Derived.Deep.RegionHeld3
import Derived.Test.YtcfnhjpmihngdaaGreatY04
import Derived.Test.YtcfnhjpmihngdaaGreatY09
namespace Go.Proofs.YtcfnhjpmihngdaaGreat
open Go.RowKit Go.Maps

/-- e comes next; nothing but the iterator's block turns -/
structure Come (w : World) (r b since : Nat) (seen : Array Nat) (es : Array MapEntry) (clock : Nat) (e : MapEntry) (w' : World) : Prop where
  mem : e ∈ es.toList
  fresh : seen.contains e.born = false
  iter : w'.heap[r]? = some (.mapIter (some b) since (seen.push e.born) clock)
  other : ∀ i, i ≠ r → w'.heap[i]? = w.heap[i]?
  size : w'.heap.size = w.heap.size
  os : w'.os = w.os
  tape : w'.tape = w.tape
  output : w'.output = w.output
  left : e ∈ (leftOf es seen).toList
def NoneLeft (es : Array MapEntry) (seen : Array Nat) : Prop := (leftOf es seen).size = 0

/-- a step of a range over a map that stands -/
theorem wpList_next_at {P : Program} {w : World} {ops : Array Oper} {rest : List Oper} {o : Oper} {a : Act} {Q : Exit → Act → World → Prop} (hg : o.guard = none) (it : Operand) (hop : o.op = Op.next it false)
    (r b since c0 : Nat) (seen : Array Nat) (es : Array MapEntry) (clock : Nat) (hit : a.eval it = .pointer (some ⟨r, 0, none⟩)) (hr : w.heap[r]? = some (.mapIter (some b) since seen c0)) (hb : w.heap[b]? = some (.map es clock))
    (hold : ∀ x ∈ es.toList, x.born < since) (hsc : since ≤ c0)
    (hDone : NoneLeft es seen → wpList P ops Q rest (a.put o.dst (.tuple #[.bool false])) w)
    (hMore : ∀ e w', Come w r b since seen es clock e w' → wpList P ops Q rest (a.put o.dst (.tuple #[.bool true, e.key, e.val])) w') :
    wpList P ops Q (o :: rest) a w := by
  refine wpList_plain hg fun K' hK' => ?_
  unfold Oper.wp
  rcases run_next_at (P := P) w o.type r b since c0 seen es clock hr hb hold hsc with ⟨h0, hrun⟩ | ⟨e, he, w1, hal, hrun⟩
  · simp [execOp, hop, hit, hrun, Result.andThen]
    exact hK' _ _ (hDone h0)
  · simp [execOp, hop, hit, hrun, Result.andThen]
    obtain ⟨h1, h2⟩ := mem_left he
    have hr1 : w1.heap[r]? = some (.mapIter (some b) since seen c0) := by rcases hal with rfl | rfl <;> exact hr
    have hset := Go.MapKept.heap_set (o' := .mapIter (some b) since (seen.push e.born) clock) hr1
    refine hK' _ _ (hMore e _ ⟨h1, h2, hset.1, fun i hi => (hset.2 i hi).trans ?_, ?_, ?_, ?_, ?_, he⟩)
    · rcases hal with rfl | rfl <;> rfl
    · rcases hal with rfl | rfl <;> simp [Go.ChangeMaps.setBlock]
    · rcases hal with rfl | rfl <;> rfl
    · rcases hal with rfl | rfl <;> rfl
    · rcases hal with rfl | rfl <;> rfl

theorem wpList_range_at {P : Program} {w : World} {ops : Array Oper} {rest : List Oper} {o : Oper} {a : Act} {Q : Exit → Act → World → Prop} (hg : o.guard = none) (x : Operand) (t : TypeId) (hop : o.op = Op.range t x)
    (k e : TypeId) (ht : P.underlying t = some (.map k e)) (b : Nat) (es : Array MapEntry) (clock : Nat) (hx : a.eval x = .map (some b)) (hb : w.heap[b]? = some (.map es clock))
    (h : wpList P ops Q rest (a.put o.dst (.pointer (some ⟨w.heap.size, 0, none⟩))) (w.alloc (.mapIter (some b) clock #[] clock))) :
    wpList P ops Q (o :: rest) a w := by
  refine wpList_plain hg fun K' hK' => ?_
  unfold Oper.wp
  simp [execOp, hop, hx, run_range_map w t k e b es clock ht hb, Result.andThen]
  exact hK' _ _ h

theorem range_left {w : World} {b r since c0 clock : Nat} {seen : Array Nat} {es : Array MapEntry} (hb : w.heap[b]? = some (.map es clock)) (hr : w.heap[r]? = some (.mapIter (some b) since seen c0)) : w.rangeLeft b r = (leftOf es seen).size := by
  simp [World.rangeLeft, hb, hr]

/-- what has been found among the entries that have come -/
def Best (c : Int) (es : Array MapEntry) (seen : Array Nat) (t k : Int) : Prop :=
  (∀ e ∈ es.toList, seen.contains e.born = true → ∀ row : Row4, e.key = rKey row → e.val = rVal row → fits c row = true → t ≤ row.2.2.1) ∧
  ((t = 9223372036854775807 ∧ k = 0) ∨ ∃ row ∈ rulesL, fits c row = true ∧ t = row.2.2.1 ∧ k = row.2.2.2)

theorem rKey_inj {p q : Row4} (h : rKey p = rKey q) : p.1 = q.1 ∧ p.2.1 = q.2.1 := by simpa [rKey] using h
theorem rVal_inj {p q : Row4} (h : rVal p = rVal q) : p.2.2.1 = q.2.2.1 ∧ p.2.2.2 = q.2.2.2 := by simpa [rVal] using h
theorem fits_iff (c : Int) (r : Row4) : fits c r = true ↔ r.1 ≤ c ∧ c ≤ r.2.1 := by simp [fits]
theorem Best.start (c : Int) (es : Array MapEntry) : Best c es #[] 9223372036854775807 0 := ⟨fun e _ h => by simp at h, .inl ⟨rfl, rfl⟩⟩
theorem Best.range {c : Int} {es : Array MapEntry} {seen : Array Nat} {t k : Int} (h : Best c es seen t k) : 0 ≤ t ∧ t ≤ 9223372036854775807 ∧ 0 ≤ k ∧ k ≤ 22 := by
  rcases h.2 with ⟨rfl, rfl⟩ | ⟨row, hr, _, rfl, rfl⟩
  · omega
  · have : ∀ r ∈ rulesL, (0 ≤ r.2.2.1 ∧ r.2.2.1 ≤ 17) ∧ 0 ≤ r.2.2.2 ∧ r.2.2.2 ≤ 22 := by decide
    have := this row hr
    omega
theorem contains_push' (seen : Array Nat) (x y : Nat) : (seen.push x).contains y = (seen.contains y || y == x) := by
  rw [Bool.eq_iff_iff]; simp [Array.mem_push]
theorem born_one {es : Array MapEntry} (hn : (es.toList.map (·.born)).Nodup) {x y : MapEntry} (hx : x ∈ es.toList) (hy : y ∈ es.toList) (h : x.born = y.born) : x = y := by
  have h1 := find_born x es.toList hn hx
  have h2 := find_born y es.toList hn hy
  rw [h] at h1
  rw [h1] at h2
  exact Option.some.inj h2
/-- the entry that came does not fit, or comes too late -/
theorem Best.keep {c : Int} {es : Array MapEntry} {seen : Array Nat} {t k : Int} (h : Best c es seen t k) (hn : (es.toList.map (·.born)).Nodup) {e : MapEntry} (he : e ∈ es.toList) {row : Row4} (h1 : e.key = rKey row) (h2 : e.val = rVal row)
    (hno : fits c row = false ∨ t ≤ row.2.2.1) : Best c es (seen.push e.born) t k := by
  refine ⟨fun x hx hs r' k1 k2 hf => ?_, h.2⟩
  rw [contains_push', Bool.or_eq_true, beq_iff_eq] at hs
  rcases hs with hs | hs
  · exact h.1 x hx hs r' k1 k2 hf
  · obtain rfl := born_one hn hx he hs
    have e1 := rKey_inj (h1.symm.trans k1)
    have e2 := rVal_inj (h2.symm.trans k2)
    rcases hno with hno | hno
    · rw [fits_iff] at hf
      have : fits c row = true := by rw [fits_iff]; omega
      rw [this] at hno; cases hno
    · omega
theorem Best.turn {c : Int} {es : Array MapEntry} {seen : Array Nat} {t k : Int} (h : Best c es seen t k) (hn : (es.toList.map (·.born)).Nodup) {e : MapEntry} (he : e ∈ es.toList) {row : Row4} (hr : row ∈ rulesL) (h1 : e.key = rKey row) (h2 : e.val = rVal row)
    (hf : fits c row = true) (hlt : row.2.2.1 < t) : Best c es (seen.push e.born) row.2.2.1 row.2.2.2 := by
  refine ⟨fun x hx hs r' k1 k2 hf' => ?_, .inr ⟨row, hr, hf, rfl, rfl⟩⟩
  rw [contains_push', Bool.or_eq_true, beq_iff_eq] at hs
  rcases hs with hs | hs
  · have := h.1 x hx hs r' k1 k2 hf'
    omega
  · obtain rfl := born_one hn hx he hs
    have e2 := rVal_inj (h2.symm.trans k2)
    omega

/-- turns rise along the list, and those of one turn have no character in common, or the same class -/
theorem rules_turns : rulesL.Pairwise (fun p q => p.2.2.1 < q.2.2.1 ∨ (p.2.2.1 = q.2.2.1 ∧ (p.2.2.2 = q.2.2.2 ∨ p.2.1 < q.1 ∨ q.2.1 < p.1))) := by decide

theorem first_best (c : Int) : ∀ (l : List Row4), l.Pairwise (fun p q => p.2.2.1 < q.2.2.1 ∨ (p.2.2.1 = q.2.2.1 ∧ (p.2.2.2 = q.2.2.2 ∨ p.2.1 < q.1 ∨ q.2.1 < p.1))) → ∀ row ∈ l, fits c row = true → (∀ r ∈ l, fits c r = true → row.2.2.1 ≤ r.2.2.1) →
    ((l.find? (fits c)).map (fun r => r.2.2.2)).getD 0 = row.2.2.2
  | [], _, row, h, _, _ => by cases h
  | r :: l, hp, row, hm, hf, hb => by
    obtain ⟨h1, h2⟩ := List.pairwise_cons.1 hp
    rw [find_if]
    by_cases hr : r.1 ≤ c ∧ c ≤ r.2.1
    · rw [if_pos hr]
      rcases List.mem_cons.1 hm with rfl | hm'
      · rfl
      · have := hb r (by simp) ((fits_iff c r).2 hr)
        rw [fits_iff] at hf
        rcases h1 row hm' with h3 | ⟨_, h3⟩ <;> omega
    · rw [if_neg hr]
      rcases List.mem_cons.1 hm with rfl | hm'
      · rw [fits_iff] at hf; exact absurd hf hr
      · exact first_best c l h2 row hm' hf (fun q hq hfq => hb q (by simp [hq]) hfq)

theorem find_none (c : Int) (l : List Row4) (h : ∀ r ∈ l, fits c r = false) : ((l.find? (fits c)).map (fun r => r.2.2.2)).getD 0 = 0 := by
  rw [List.find?_eq_none.2 (fun r hr => by rw [h r hr]; decide)]; rfl

theorem Best.done {c : Int} {es : Array MapEntry} {clock : Nat} {seen : Array Nat} {t k : Int} {w : World} {b : Nat} (h : Best c es seen t k) (hm : Mp w b (rulesL.map rEnt) (fun j => decide (j < rulesL.length)) es clock) (h0 : (leftOf es seen).size = 0) : k = classN c := by
  rw [← classF_eq]
  have hall : ∀ row ∈ rulesL, fits c row = true → t ≤ row.2.2.1 := by
    intro row hr hf
    obtain ⟨j, hj, hjr⟩ := List.getElem_of_mem hr
    obtain ⟨e, he, h1, h2⟩ := hm.all j (rEnt row) (by rw [List.getElem?_map, List.getElem?_eq_getElem hj, hjr]; rfl) (by simp [hj])
    exact h.1 e he (all_seen es seen h0 e he) row h1 h2 hf
  rcases h.2 with ⟨rfl, rfl⟩ | ⟨row, hr, hf, rfl, rfl⟩
  · unfold clsTabF
    rw [find_none]
    intro r hr
    cases hf : fits c r
    · rfl
    · have := hall r hr hf
      have : ∀ r ∈ rulesL, r.2.2.1 ≤ 17 := by decide
      have := this r hr
      omega
  · exact (first_best c rulesL rules_turns row hr hf hall).symm

set_option maxRecDepth 100000 in
set_option maxHeartbeats 1000000 in
theorem classBy_any (c : Int) (b : Nat) (w : World) (es : Array MapEntry) (clock : Nat) (hm : Mp w b (rulesL.map rEnt) (fun j => decide (j < rulesL.length)) es clock) :
    Calls Tryz.prog 75 #[.map (some b), .int .i64 c] w fun e w' => e = .returned (.int .i64 (classN c)) ∧ Below w.heap.size w w' := by
  have HM := Lib.hid hm
  have hb := hm.lt
  clear hm
  have b0 := Lib.hid ((Below.refl w.heap.size w).alloc (Nat.le_refl _) (.cells #[.int .i64 9223372036854775807, .int .i64 0] 117))
  have HB := Lib.hid ((Below.heap_alloc w (.cells #[.int .i64 9223372036854775807, .int .i64 0] 117) b hb).trans HM.out.heap)
  have k0 := Lib.hid (Blk.new w 117 #[.int .i64 9223372036854775807, .int .i64 0])
  go_enter Tryz.func75, Tryz.ntmps75
  go_wp2_with (first
    | (at_range; refine wpList_range_at rfl _ _ rfl _ _ Tryz.underlying105 b es clock rfl HB.out ?_)
    | go_in)
  go_frame
  generalize hX : w.alloc (.cells #[.int .i64 9223372036854775807, .int .i64 0] 117) = X at *
  have szX : X.heap.size = w.heap.size + 1 := by rw [← hX]; simp
  clear hX
  rw [szX]
  go_loopw [11] (fun _ wr => ∃ (seen : Array Nat) (c0 : Nat) (t k : Int), Hid (wr.heap[w.heap.size + 1]? = some (.mapIter (some b) clock seen c0)) ∧ Hid (clock ≤ c0) ∧ Hid (wr.heap[b]? = some (.map es clock)) ∧
    Hid (Blk wr w.heap.size 117 #[.int .i64 t, .int .i64 k]) ∧ Hid (Below w.heap.size w wr) ∧ Hid (Best c es seen t k)) (fun _ wr => wr.rangeLeft b (w.heap.size + 1))
  case atStart =>
    refine ⟨#[], clock, _, _, Lib.hid ?_, Lib.hid (Nat.le_refl _), Lib.hid ((Below.heap_alloc X _ b (by omega)).trans HB.out), Lib.hid (k0.out.alloc _), Lib.hid (b0.out.alloc (by omega) _), Lib.hid (Best.start c es)⟩
    rw [← szX]; exact (MapKept.heap_alloc X _).1
  case round =>
    obtain ⟨seen, c0, t, k, hr, hc0, hmb, hk, hbl, hbest⟩ := hrel
    go_wp2_with (first
      | (at_next; refine wpList_next_at rfl _ rfl (w.heap.size + 1) b clock c0 seen es clock rfl hr.out hmb.out HM.out.born hc0.out ?_ ?_)
      | go_in)
    · intro h0
      have HK := Lib.hid (hbest.out.done HM.out h0)
      have hd1 := hk.out.cell 1 (u := .int .i64 k) rfl
      clear h0
      go_wp2
      go_ret
      exact ⟨rint HK.out, hbl.out⟩
    · intro e W2 hc
      obtain ⟨j, ent, hj, _, hkey, hval⟩ := HM.out.mem e hc.mem
      obtain ⟨row, hrow, rfl⟩ : ∃ row ∈ rulesL, ent = rEnt row := by
        obtain ⟨row, h1, h2⟩ := List.mem_map.1 (List.mem_of_getElem? hj)
        exact ⟨row, h1, h2.symm⟩
      have hkey : e.key = rKey row := hkey
      have hval : e.val = rVal row := hval
      have hblw := hbl.out
      have hkw := hk.out
      have hsz := hkw.lt
      have r2 := Lib.hid hc.iter
      have b2 := Lib.hid ((hc.other b (by omega)).trans hmb.out)
      have k2 : Blk W2 w.heap.size 117 #[.int .i64 t, .int .i64 k] := (hc.other w.heap.size (by omega)).trans hkw
      have bl2 := Lib.hid (show Below w.heap.size w W2 from ⟨hc.os.trans hblw.os, hc.tape.trans hblw.tape, hc.output.trans hblw.output, by rw [hc.size]; exact hblw.size, fun i hi => (hc.other i (by omega)).trans (hblw.block i hi)⟩)
      have hen := run_entry_at (P := Tryz.prog) W2 (w.heap.size + 1) b clock seen es clock e r2.out b2.out hc.mem HM.out.nodup
      rw [hkey, hval] at hen ⊢
      have HKEY := Lib.hid hkey
      have HVAL := Lib.hid hval
      have HROW := Lib.hid hrow
      have HC := Lib.hid hc
      obtain ⟨rf, rl, rt, rk⟩ := row
      have gt := hbest.out.range
      have szk := k2.lt
      simp only [rKey, rVal] at hen ⊢
      have k3 := ((k2.alloc (.cells #[.int .i64 rf, .int .i64 rl] 115)).alloc (.cells #[.int .i64 rt, .int .i64 rk] 117)).alloc (.cells #[.int .i64 rf, .int .i64 rl] 2)
      have hd0 := k3.cell 0 (u := .int .i64 t) rfl
      have hd1 := k3.cell 1 (u := .int .i64 k) rfl
      have hf0 := k3.frozen 0
      have hf1 := k3.frozen 1
      have K3 := Lib.hid k3
      have hl := HC.out.left
      have HL := Lib.hid (left_shrinks es seen e hl)
      have r3 := Lib.hid (((Below.heap_alloc W2 (.cells #[.int .i64 rf, .int .i64 rl] 115) (w.heap.size + 1) (Array.getElem?_eq_some_iff.1 r2.out).1).trans r2.out))
      have bl3 := Lib.hid (((bl2.out.alloc bl2.out.size (.cells #[.int .i64 rf, .int .i64 rl] 115)).alloc (by have := bl2.out.size; simp; omega) (.cells #[.int .i64 rt, .int .i64 rk] 117)).alloc (by have := bl2.out.size; simp; omega) (.cells #[.int .i64 rf, .int .i64 rl] 2))
      clear hblw hkw hj hrow hkey hval hc0 hbl hc k2 k3 hl
      have hml : ∀ (i : Nat) (o : Obj), W2.heap[i]? = some o → (((W2.alloc (.cells #[.int .i64 rf, .int .i64 rl] 115)).alloc (.cells #[.int .i64 rt, .int .i64 rk] 117)).alloc (.cells #[.int .i64 rf, .int .i64 rl] 2)).heap[i]? = some o := by
        intro i o h
        have hlt := (Array.getElem?_eq_some_iff.1 h).1
        rw [Below.heap_alloc _ _ i (by simp; omega), Below.heap_alloc _ _ i (by simp; omega), Below.heap_alloc _ _ i hlt, h]
      have R3 := Lib.hid (hml _ _ r2.out)
      have B3 := Lib.hid (hml _ _ b2.out)
      clear hml r3
      generalize hY : (((W2.alloc (.cells #[.int .i64 rf, .int .i64 rl] 115)).alloc (.cells #[.int .i64 rt, .int .i64 rk] 117)).alloc (.cells #[.int .i64 rf, .int .i64 rl] 2)) = Y at *
      by_cases hfit : rf ≤ c ∧ c ≤ rl
      · have hs : spans c [rf, rl] = true := by simp [spans]; exact hfit
        have HF := Lib.hid ((fits_iff c (rf, rl, rt, rk)).2 hfit)
        clear hfit
        subst hY
        by_cases hlt : rt < t
        · go_wp2_with (go_at_call 67; refine (within_lit2 _ _ _ _ _ _ (by simp)).mono ?_; rintro e w' ⟨rfl, rfl⟩)
          go_roundw
          case rel => exact ⟨seen.push e.born, clock, rt, rk, Lib.hid (by rw [heap_setCell_other _ _ _ _ (by simp), heap_setCell_other _ _ _ _ (by simp)]; exact R3.out), Lib.hid (Nat.le_refl _), Lib.hid (by rw [heap_setCell_other _ _ _ _ (by simp; omega), heap_setCell_other _ _ _ _ (by simp; omega)]; exact B3.out), Lib.hid ((K3.out.set 0 _).set 1 _), Lib.hid ((bl3.out.setCell (by simp) _).setCell (by simp) _), Lib.hid (hbest.out.turn HM.out.nodup HC.out.mem HROW.out HKEY.out HVAL.out HF.out hlt)⟩
          case measure => rw [range_left (by rw [heap_setCell_other _ _ _ _ (by simp; omega), heap_setCell_other _ _ _ _ (by simp; omega)]; exact B3.out) (by rw [heap_setCell_other _ _ _ _ (by simp), heap_setCell_other _ _ _ _ (by simp)]; exact R3.out), range_left hmb.out hr.out]; exact HL.out
        · go_wp2_with (go_at_call 67; refine (within_lit2 _ _ _ _ _ _ (by simp)).mono ?_; rintro e w' ⟨rfl, rfl⟩)
          go_roundw
          case rel => exact ⟨seen.push e.born, clock, t, k, Lib.hid R3.out, Lib.hid (Nat.le_refl _), B3, K3, bl3, Lib.hid (hbest.out.keep HM.out.nodup HC.out.mem HKEY.out HVAL.out (.inr (by omega)))⟩
          case measure => rw [range_left B3.out R3.out, range_left hmb.out hr.out]; exact HL.out
      · have hs : spans c [rf, rl] = false := by simp [spans]; omega
        have HF := Lib.hid hfit
        clear hfit
        subst hY
        go_wp2_with (go_at_call 67; refine (within_lit2 _ _ _ _ _ _ (by simp)).mono ?_; rintro e w' ⟨rfl, rfl⟩)
        go_roundw
        case rel => exact ⟨seen.push e.born, clock, t, k, Lib.hid R3.out, Lib.hid (Nat.le_refl _), B3, K3, bl3, Lib.hid (hbest.out.keep HM.out.nodup HC.out.mem HKEY.out HVAL.out (.inl (by rw [Bool.eq_false_iff, Ne, fits_iff]; exact HF.out)))⟩
        case measure => rw [range_left B3.out R3.out, range_left hmb.out hr.out]; exact HL.out
end Go.Proofs.YtcfnhjpmihngdaaGreat

namespace Go.Proofs.YtcfnhjpmihngdaaGreat
open Go.RowKit Go.Maps

theorem isChrR {c : Int} (h : isChr c = true) : 0 ≤ c ∧ c ≤ 1114111 := by simp [isChr] at h; omega

def classC (c : Int) : Int := if isChr c = true then 0 else 3
def classV (c : Int) : Int := if isChr c = true then classN c else 0
theorem class_no {c : Int} (h : isChr c = false) : classC c = 3 ∧ classV c = 0 := by unfold classC classV; simp [h]
theorem class_yes {c : Int} (h : isChr c = true) : classC c = 0 ∧ classV c = classN c := by unfold classC classV; simp [h]



def isoB (k : Int) : Bool := decide (19 ≤ k ∧ k ≤ 22)
theorem l2Isolate_any (k : Int) (w : World) :
    Calls Tryz.prog 65 #[.int .i64 k] w fun e w' => e = .returned (.bool (isoB k)) ∧ w = w' := by
  go_enter Tryz.func65, Tryz.ntmps65
  go_wp2_with (go_at_call 21; refine (l1In_any _ _ _ _).mono ?_; rintro e w' ⟨rfl, rfl⟩)
  go_ret
  exact ⟨rbool (by simp [isoB]), rfl⟩
end Go.Proofs.YtcfnhjpmihngdaaGreat

namespace Go.Proofs.YtcfnhjpmihngdaaGreat
open Go.RowKit Go.Maps

theorem encode_zero {zs : List Int} (h : textF zs = 0) : encode zs = (0, encs zs) := by
  obtain ⟨h1, h2⟩ := textF_zero h
  unfold encode; rw [if_neg (by omega), h2]; rfl
def opB (k : Int) : Bool := decide (19 ≤ k ∧ k ≤ 21)
theorem opensIsolate_any (k : Int) (w : World) :
    Calls Tryz.prog 91 #[.int .i64 k] w fun e w' => e = .returned (.bool (opB k)) ∧ Below w.heap.size w w' := by
  have b1 := (Below.refl w.heap.size w).alloc (Nat.le_refl _) (.cells #[.int .i64 19, .int .i64 21] 2)
  go_enter Tryz.func91, Tryz.ntmps91
  go_wp2_with (go_at_call 67; (with_reducible refine (within_lit2 _ _ _ _ _ _ (by simp)).mono ?_); rintro e w' ⟨rfl, rfl⟩)
  go_ret
  refine ⟨rbool ?_, b1⟩
  simp only [spans, Bool.or_false, opB]
  rw [Bool.eq_iff_iff]; simp
theorem l3Opens_any (k : Int) (w : World) :
    Calls Tryz.prog 31 #[.int .i64 k] w fun e w' => e = .returned (.bool (opB k)) ∧ w = w' := by
  go_enter Tryz.func31, Tryz.ntmps31
  go_wp2_with (go_at_call 21; refine (l1In_any _ _ _ _).mono ?_; rintro e w' ⟨rfl, rfl⟩)
  go_ret
  exact ⟨rbool (by simp [opB]), rfl⟩

theorem field_bytes (x : Value) (A : Option Addr) (n c : Nat) (w : World) : (Instr.field 120 (.agg #[x, .slice A n c]) 1).run Tryz.prog w = .ok (.slice A n c) w := by
  simp [Instr.field, go_sem, asAgg]
attribute [local go_sem] field_bytes

set_option maxRecDepth 100000 in
set_option maxHeartbeats 400000 in
theorem stringOf_any (A : Option Addr) (zs : List Int) (c : Nat) (w : World) (B : Nat) (h1 : Rd w B A (nums .i64 zs)) (hB : B ≤ w.heap.size) (hz : textF zs = 0) :
    Calls Tryz.prog 74 #[.slice A zs.length c] w fun e w' => e = .returned (.string (bstr (encs zs))) ∧ Below w.heap.size w w' := by
  have hl := (textF_zero hz).1
  have EZ := Lib.hid (encode_zero hz)
  have HB := Lib.hid (encs_bytes zs (textF_zero hz).2)
  go_enter Tryz.func74, Tryz.ntmps74
  go_wp2_with fail
  refine (encodeText_any A zs c w (h1.more hB) (by omega)).mono ?_
  rintro e w1 ⟨⟨v, rfl, o1⟩, b1⟩
  rw [EZ.out] at o1 ⊢
  obtain ⟨A1, c1, rfl⟩ := o1.form
  have hcv := run_bstr (P := Tryz.prog) w1 118 9 5 A1 c1 (encs zs) Tryz.underlying118 Tryz.underlying5 Tryz.underlying9 _ (Rd.of o1.1) HB.out
  clear o1 h1
  go_wp2
  go_ret
  exact ⟨rfl, b1⟩

/-- an iterator has gone on; nothing else has turned -/
structure Went (w : World) (g : Nat) (o : Obj) (w' : World) : Prop where
  it : w'.heap[g]? = some o
  other : ∀ i, i ≠ g → w'.heap[i]? = w.heap[i]?
  size : w'.heap.size = w.heap.size
  os : w'.os = w.os
  tape : w'.tape = w.tape
  output : w'.output = w.output
theorem Went.below {w w' : World} {g B : Nat} {o : Obj} (h : Went w g o w') (hB : B ≤ g) : Below B w w' := ⟨h.os, h.tape, h.output, by rw [h.size]; exact Nat.le_refl _, fun i hi => h.other i (by omega)⟩
theorem Went.own {w w' : World} {g : Nat} {o : Obj} {base n size : Nat} {e : TypeId} {v : Value} {xs : List Value} (h : Went w g o w') (hr : w.ownsRow base e size v n xs) (hv : ∀ b, v.ownBlock = some b → b ≠ g) : w'.ownsRow base e size v n xs :=
  ⟨hr.1, by
    rcases hr.2 with hn | ⟨b, cap, cur, rfl, h1, h2, rest⟩
    · exact .inl hn
    · exact .inr ⟨b, cap, cur, rfl, h1, by rw [h.other b (hv b rfl)]; exact h2, rest⟩⟩
theorem wpList_next_text {P : Program} {w : World} {ops : Array Oper} {rest : List Oper} {o : Oper} {a : Act} {Q : Exit → Act → World → Prop} (hgd : o.guard = none) (it : Operand) (hop : o.op = Op.next it true)
    (g : Nat) (zs : List Int) (hz : zs.all chrB = true) (k : Nat) (hit : a.eval it = .pointer (some ⟨g, 0, none⟩)) (hk : w.heap[g]? = some (.stringIter (bstr (encs zs)) (encAt zs k)))
    (hDone : zs.length ≤ k → wpList P ops Q rest (a.put o.dst (.tuple #[.bool false])) w)
    (hMore : k < zs.length → ∀ w', Went w g (.stringIter (bstr (encs zs)) (encAt zs (k + 1))) w' → wpList P ops Q rest (a.put o.dst (.tuple #[.bool true, .int .i64 (encAt zs k), .int .i32 (nth zs k)])) w') :
    wpList P ops Q (o :: rest) a w := by
  refine wpList_plain hgd fun K' hK' => ?_
  unfold Oper.wp
  by_cases h : k < zs.length
  · have hrun := next_text (P := P) w g zs hz k h o.type hk
    simp [execOp, hop, hit, hrun, Result.andThen]
    exact hK' _ _ (hMore h _ ⟨Lib.iterAt_heap _ _ _ _ _ hk, fun i hi => Lib.iterAt_other _ _ _ _ _ hi, Lib.iterAt_size _ _ _ _, rfl, rfl, rfl⟩)
  · have hrun := next_end (P := P) w g zs k (by omega) o.type hk
    simp [execOp, hop, hit, hrun, Result.andThen]
    exact hK' _ _ (hDone (by omega))

theorem Mp.below {w w' : World} {b B : Nat} {L : List Ent} {S : Nat → Bool} {es : Array MapEntry} {clock : Nat} (h : Mp w b L S es clock) (hb : Below B w w') (hB : b < B) : Mp w' b L S es clock :=
  ⟨(hb.block b hB).trans h.heap, h.born, h.nodup, h.mem, h.all⟩
theorem iter_at {w : World} {g : Nat} {s : ByteArray} {p : Nat} (h : w.heap[g]? = some (.stringIter s p)) : w.iterPos g = p := by simp [World.iterPos, h]
theorem iter_below {w w' : World} {g B : Nat} {s : ByteArray} {p : Nat} (h : w.heap[g]? = some (.stringIter s p)) (hb : Below B w w') (hB : g < B) : w'.heap[g]? = some (.stringIter s p) := (hb.block g hB).trans h
theorem at_lt {w : World} {g : Nat} {o : Obj} (h : w.heap[g]? = some o) : g < w.heap.size := (Array.getElem?_eq_some_iff.1 h).1

def classesN (zs : List Int) : List Int := zs.map classN
theorem classesN_len (zs : List Int) : (classesN zs).length = zs.length := by simp [classesN]
theorem classesN_nth (zs : List Int) (k : Nat) (h : k < zs.length) : nth (classesN zs) k = classN (nth zs k) := by simp [classesN, nth, List.getElem?_eq_getElem h]
theorem classesN_step (zs : List Int) (k : Nat) (h : k < zs.length) : classesN (zs.take (k + 1)) = classesN (zs.take k) ++ [classN (nth zs k)] := by rw [take_nth zs k h]; simp [classesN]
theorem own_app1 {w' : World} {B : Nat} {t : TypeId} {v' : Value} {n : Nat} {a : List Int} {z : Int} {kd : IntKind} (h : w'.ownsRow B t 1 v' (n + 1) (nums kd a ++ [.int kd z])) (hn : n = a.length) :
    w'.ownsRow B t 1 v' (a ++ [z]).length (nums kd (a ++ [z])) := by subst hn; rw [nums_app, List.length_append]; exact h

set_option maxRecDepth 100000 in
set_option maxHeartbeats 1000000 in
theorem classesOf_any (A : Option Addr) (zs : List Int) (c : Nat) (w : World) (B : Nat) (h1 : Rd w B A (nums .i64 zs)) (hB : B ≤ w.heap.size) (hz : textF zs = 0) :
    Calls Tryz.prog 53 #[.slice A zs.length c] w fun e w' => (∃ v, e = .returned v ∧ Own w' w.heap.size w'.heap.size 2 .i64 v (classesN zs)) ∧ Below w.heap.size w w' := by
  obtain ⟨i0, hi, hz0, hz1, hz2⟩ := info_parts info_int64
  have hl := (textF_zero hz).1
  have HC := Lib.hid (textF_zero hz).2
  have HZ := Lib.hid hz
  have H1 := Lib.hid h1
  clear hz h1
  go_enter Tryz.func53, Tryz.ntmps53
  go_wp2_with fail
  refine (classRules_any _).mono ?_
  rintro e w1 ⟨⟨rfl, es, clock, hm⟩, b1⟩
  have s1 := hm.lt
  go_wp2_with fail
  refine (stringOf_any A zs c w1 B (H1.out.below b1 hB) (by have := b1.size; omega) HZ.out).mono ?_
  rintro e w2 ⟨rfl, b2⟩
  have s2 := b2.size
  have HM := Lib.hid (hm.below b2 s1)
  have b3 := below_on b1 b2 (Nat.le_refl _)
  have B3 := Lib.hid (b3.alloc b3.size (.stringIter (bstr (encs zs)) 0))
  have HM2 := Lib.hid (show Mp (w2.alloc (.stringIter (bstr (encs zs)) 0)) _ _ _ _ _ from HM.out.below ((Below.refl _ _).alloc (Nat.le_refl _) _) HM.out.lt)
  have HI := Lib.hid (show (w2.alloc (.stringIter (bstr (encs zs)) 0)).heap[w2.heap.size]? = some (.stringIter (bstr (encs zs)) (encAt zs 0)) by rw [encAt_zero]; exact heap_alloc_new w2 _)
  clear b1 b2 b3 hm
  go_wp2
  generalize hX : World.iter w2 (bstr (encs zs)) 0 = X at *
  have eX : X = w2.alloc (.stringIter (bstr (encs zs)) 0) := by rw [← hX]; rfl
  rw [← eX] at B3 HM2 HI
  have szX : X.heap.size = w2.heap.size + 1 := by rw [eX]; simp
  clear eX hX HM
  go_loopw [3] (fun v wr => ∃ k : Nat, k ≤ zs.length ∧ Hid (wr.ownsRow (w2.heap.size + 1) 2 1 v (classesN (zs.take k)).length (nums .i64 (classesN (zs.take k)))) ∧
    Hid (wr.heap[w2.heap.size]? = some (.stringIter (bstr (encs zs)) (encAt zs k))) ∧ Hid (Mp wr w.heap.size (rulesL.map rEnt) (fun j => decide (j < rulesL.length)) es clock) ∧ Hid (Below w.heap.size w wr)) (fun _ wr => (encs zs).length - wr.iterPos w2.heap.size)
  case atStart => exact ⟨0, by omega, Lib.hid (World.ownsRow_nil _ _ _ _), HI, HM2, B3⟩
  case round =>
    obtain ⟨k, hk, ho, hit, hm, hbr⟩ := hrel
    go_wp2_with (at_next; refine wpList_next_text rfl _ rfl w2.heap.size zs HC.out k rfl hit.out ?_ ?_)
    · intro hge
      have e : zs.take k = zs := List.take_of_length_le hge
      rw [e] at ho
      clear e hge
      go_wp2
      go_ret
      exact ⟨⟨_, rfl, (Own.mk_ ho.out rfl).more (by have := hbr.out.size; omega) (Nat.le_refl _)⟩, hbr.out⟩
    · intro hlt w3 hw
      have szw := hw.size
      have hgt := at_lt hit.out
      have O3 := Lib.hid (hw.own ho.out (fun b hb => by have := (ho.out.lt b hb).1; omega))
      have I3 := Lib.hid hw.it
      have M3 := Lib.hid (hm.out.below (hw.below (B := w2.heap.size) (Nat.le_refl _)) (by omega))
      have B4 := Lib.hid (hbr.out.trans (hw.below (B := w.heap.size) (by omega)))
      have LT := Lib.hid hlt
      clear hw
      obtain ⟨z, hzz⟩ : ∃ z, Hid (z = nth zs k) := ⟨_, Lib.hid rfl⟩
      rw [← hzz.out]
      have hch : chrB z = true := by rw [hzz.out]; exact chr_nth zs HC.out k hlt
      simp only [chrB, decide_eq_true_eq] at hch
      have hzl : 0 ≤ z := by omega
      have hzh : z ≤ 1114111 := by omega
      clear hch hlt
      go_wp2_with fail
      refine (classBy_any z _ w3 es clock M3.out).mono ?_
      rintro e w4 ⟨rfl, b4⟩
      have O4 := Lib.hid (own_below O3.out b4)
      have I4 := Lib.hid (iter_below I3.out b4 (at_lt I3.out))
      have M4 := Lib.hid (M3.out.below b4 M3.out.lt)
      have B5 := Lib.hid (below_on B4.out b4 (Nat.le_refl _))
      have s4 := b4.size
      have hlen : (classesN (zs.take k)).length ≤ 600 := by rw [classesN_len, List.length_take]; omega
      clear b4 O3 I3 M3 B4 ho hm hbr
      obtain ⟨q, hq⟩ : ∃ q, Hid (q = classN z) := ⟨_, Lib.hid rfl⟩
      rw [← hq.out]
      have i4 := at_lt I4.out
      go_wp2_with (at_builtin; go_loud (refine wpList_app rfl _ _ _ rfl (w2.heap.size + 1) Tryz.underlying22 hi hz0 hz1 hz2 rfl (by omega) rfl (O4.out.alloc _) rfl (Rd.lit w4 #[.int .i64 q] _) (m := 1) rfl (nums_one .i64 [q]) (by omega) (by omega) (by simp; omega) ?_); intro v' w5 o5 g5 a5)
      have gg : w4.grownBy w5 _ := (World.grownBy_alloc w4 _ _).trans g5
      have notIt : ∀ b, Value.ownBlock _ = some b → w2.heap.size + 1 ≤ b := fun b hb => (O4.out.lt b hb).1
      have I5 := Lib.hid (show w5.heap[w2.heap.size]? = _ from (gg.block w2.heap.size i4 (fun e => by have := notIt _ e.symm; omega)).trans I4.out)
      have M5 := Lib.hid (show Mp w5 _ _ _ _ _ from ⟨(gg.block _ M4.out.lt (fun e => by have := notIt _ e.symm; omega)).trans M4.out.heap, M4.out.born, M4.out.nodup, M4.out.mem, M4.out.all⟩)
      have B6 := Lib.hid (B5.out.grown gg B5.out.size (fun b hb => by have := notIt b hb; omega))
      have O5 := Lib.hid (own_app1 o5 rfl)
      have ek : Hid (classesN (zs.take (k + 1)) = classesN (zs.take k) ++ [q]) := Lib.hid (by rw [classesN_step zs k LT.out, hq.out, hzz.out])
      clear o5 g5 a5 gg notIt
      go_roundw
      case rel => exact ⟨k + 1, LT.out, by rw [ek.out]; exact O5, I5, M5, B6⟩
      case measure =>
        rw [iter_at I5.out, iter_at hit.out]
        have := encAt_lt zs k LT.out
        have := encAt_step zs k LT.out
        have := enc1_pos (nth zs k)
        omega
end Go.Proofs.YtcfnhjpmihngdaaGreat
