/- FnExactSequencesOf: the law returns true at all its arguments and leaves all memory that was there as it was. No condition. -/
import Derived.Test.YthhbikilighemaaO4
import Derived.Test.YthhbikilighemaaH3
import Derived.Test.YthhbikilighemaaL2
import Derived.Deep.RegionHeld3
import Derived.Test.YthhbikilighemaaK11
import Derived.Test.YthhbikilighemaaH1
import Derived.ProofKit
import Derived.OpenShut
import Derived.SizedLaws
import Derived.WalkKit
import Derived.OpenVars
import Derived.Test.YthhbikilighemaaB0
namespace Go.Proofs.Ythhbikilighemaa
open Go.RowKit

theorem sumQ_cons (q : Sq) (r : List Sq) : sumQ (q :: r) = q.places.length + sumQ r := by simp [sumQ]
theorem sumQ_app (a b : List Sq) : sumQ (a ++ b) = sumQ a + sumQ b := by simp [sumQ]
theorem nthQ_zero (q : Sq) (r : List Sq) : nthQ (q :: r) 0 = q := rfl
theorem nthQ_succ (q : Sq) (r : List Sq) (j : Nat) : nthQ (q :: r) (j + 1) = nthQ r j := by simp [nthQ]
theorem sumQ_take_step (qs : List Sq) (j : Nat) (h : j < qs.length) : sumQ (qs.take (j + 1)) = sumQ (qs.take j) + (nthQ qs j).places.length := by
  rw [List.take_succ_eq_append_getElem h, sumQ_app]
  simp [sumQ, nthQ, List.getElem?_eq_getElem h]
theorem sumQ_take_le : ∀ (qs : List Sq) (j : Nat), sumQ (qs.take j) ≤ sumQ qs
  | [], j => by simp
  | q :: r, 0 => by simp [sumQ]
  | q :: r, j + 1 => by rw [List.take_succ_cons, sumQ_cons, sumQ_cons]; have := sumQ_take_le r j; omega
theorem sumQ_nth_le (qs : List Sq) (j : Nat) (h : j < qs.length) : sumQ (qs.take j) + (nthQ qs j).places.length ≤ sumQ qs := by
  rw [← sumQ_take_step qs j h]; exact sumQ_take_le _ _

/-- a cell that is no slice is written -/
theorem OwnC.put {w : World} {lo hi : Nat} {tt : TypeId} {size n g cap : Nat} {us : List Value} {cs : Nat → Option Cont} (h : OwnC w lo hi tt size (.slice (some ⟨g, 0, none⟩) n cap) n us cs) (k : Nat) (u : Value) (hc : cs k = none) (hu : u.ownBlock = none) :
    OwnC (w.setCell ⟨g, k, none⟩ u) lo hi tt size (.slice (some ⟨g, 0, none⟩) n cap) n (us.set k u) cs := by
  have st := h.row.stored k u
  have get : ∀ (j : Nat) (x : Value), (us.set k u)[j]? = some x → x = u ∨ us[j]? = some x := by
    intro j x hx
    by_cases e : j = k
    · subst e
      by_cases hk : j < us.length
      · rw [List.getElem?_set_self hk] at hx
        injection hx with hx
        exact .inl hx.symm
      · rw [List.getElem?_eq_none (by simp; omega)] at hx; cases hx
    · rw [List.getElem?_set_ne (by omega)] at hx
      exact .inr hx
  refine ⟨st.1, fun g' hg => (h.vlt g' hg).2.1, ?_, ?_, ?_, ?_⟩
  · intro j c hj
    obtain ⟨x, h1, h2⟩ := h.each j c hj
    have hjk : j ≠ k := fun e => by rw [e, hc] at hj; cases hj
    exact ⟨x, by rw [List.getElem?_set_ne (by omega)]; exact h1, ⟨h2.1.kept st.2 (h.off j x h1), h2.2⟩⟩
  · intro j x hx hj
    rcases get j x hx with rfl | h1
    · exact hu
    · exact h.bare j x h1 hj
  · intro i j x y hij hx hy
    rcases get i x hx with rfl | h1
    · exact .inl hu
    · rcases get j y hy with rfl | h2
      · by_cases hn : x.ownBlock = none
        · exact .inl hn
        · exact .inr (by rw [hu]; exact hn)
      · exact h.apart i j x y hij h1 h2
  · intro j x hx
    rcases get j x hx with rfl | h1
    · exact .inl hu
    · exact h.off j x h1
/-- one sequence marked anew -/
theorem OwnQ.mark {w w1 : World} {lo hi : Nat} {tt t : TypeId} {g n cap : Nat} {qs : List Sq} {us : List Value} (h : OwnQ w lo hi tt t (.slice (some ⟨g, 0, none⟩) n cap) qs us) (hn : n = qs.length) {j : Nat} (hj : j < qs.length) {u : Value} {ys : List Int} (hu : us[j * 4]? = some u)
    (hg : w.grownBy w1 u.ownBlock) (ho : Own w1 lo hi t .i64 u ys) (a b c : Int) :
    OwnQ (((w1.setCell ⟨g, j * 4 + 1, none⟩ (.int .i64 a)).setCell ⟨g, j * 4 + 2, none⟩ (.int .i64 b)).setCell ⟨g, j * 4 + 3, none⟩ (.int .i64 c)) lo hi tt t (.slice (some ⟨g, 0, none⟩) n cap) (qs.set j ⟨ys, a, b, c⟩)
      (((us.set (j * 4 + 1) (.int .i64 a)).set (j * 4 + 2) (.int .i64 b)).set (j * 4 + 3) (.int .i64 c)) := by
  subst hn
  have hl := h.len
  have r1 := h.rows.turn (contsQ_get t qs j hj) hu hg ho
  have nc : ∀ i, i % 4 ≠ 0 → (fun k => if k = j * 4 then some { (⟨t, .i64, (nthQ qs j).places⟩ : Cont) with zs := ys } else contsQ t qs k) i = none := by
    intro i hi4
    simp only
    rw [if_neg (by omega)]
    unfold contsQ
    rw [if_neg hi4]
  have r4 := ((r1.put (j * 4 + 1) (.int .i64 a) (nc _ (by omega)) rfl).put (j * 4 + 2) (.int .i64 b) (nc _ (by omega)) rfl).put (j * 4 + 3) (.int .i64 c) (nc _ (by omega)) rfl
  have e : (fun k => if k = j * 4 then some { (⟨t, .i64, (nthQ qs j).places⟩ : Cont) with zs := ys } else contsQ t qs k) = contsQ t (qs.set j ⟨ys, a, b, c⟩) := by
    funext k
    by_cases ek : k = j * 4
    · subst ek
      rw [if_pos rfl]
      unfold contsQ
      rw [if_pos (by omega), Nat.mul_div_cancel _ (by omega), List.getElem?_set_self hj]; rfl
    · rw [if_neg ek]
      unfold contsQ
      split
      · rw [List.getElem?_set_ne (by omega)]
      · rfl
  rw [e] at r4
  refine ⟨by rw [List.length_set]; exact r4, fun i hi' => ?_⟩
  rw [List.length_set] at hi'
  by_cases ei : i = j
  · subst ei
    have en : nthQ (qs.set i ⟨ys, a, b, c⟩) i = ⟨ys, a, b, c⟩ := by unfold nthQ; rw [List.getElem?_set_self hj]; rfl
    rw [en]
    refine ⟨?_, ?_, ?_⟩
    · rw [List.getElem?_set_ne (by omega), List.getElem?_set_ne (by omega), List.getElem?_set_self (by omega)]
    · rw [List.getElem?_set_ne (by omega), List.getElem?_set_self (by simp; omega)]
    · rw [List.getElem?_set_self (by simp; omega)]
  · have en : nthQ (qs.set j ⟨ys, a, b, c⟩) i = nthQ qs i := by unfold nthQ; rw [List.getElem?_set_ne (by omega)]
    rw [en]
    obtain ⟨s1, s2, s3⟩ := h.sc i hi'
    refine ⟨?_, ?_, ?_⟩
    · rw [List.getElem?_set_ne (by omega), List.getElem?_set_ne (by omega), List.getElem?_set_ne (by omega)]; exact s1
    · rw [List.getElem?_set_ne (by omega), List.getElem?_set_ne (by omega), List.getElem?_set_ne (by omega)]; exact s2
    · rw [List.getElem?_set_ne (by omega), List.getElem?_set_ne (by omega), List.getElem?_set_ne (by omega)]; exact s3
/-- where the j-th lies -/
theorem OwnQ.at_ {w : World} {lo hi : Nat} {tt t : TypeId} {v : Value} {qs : List Sq} {us : List Value} (h : OwnQ w lo hi tt t v qs us) (j : Nat) (hj : j < qs.length) : ∃ g c u, v = .slice (some ⟨g, 0, none⟩) qs.length c ∧ lo ≤ g ∧ g < hi ∧ us[j * 4]? = some u ∧ w.cell? ⟨g, j * 4, none⟩ = some u ∧ Own w lo hi t .i64 u (nthQ qs j).places ∧ (u.ownBlock = none ∨ u.ownBlock ≠ some g) ∧
    w.cell? ⟨g, j * 4 + 1, none⟩ = some (.int .i64 (nthQ qs j).level) ∧ w.cell? ⟨g, j * 4 + 2, none⟩ = some (.int .i64 (nthQ qs j).sos) ∧ w.cell? ⟨g, j * 4 + 3, none⟩ = some (.int .i64 (nthQ qs j).eos) ∧ (∀ i, w.frozen? ⟨g, i, none⟩ = false) := by
  obtain ⟨u, h1, h2⟩ := h.rows.each (j * 4) _ (contsQ_get t qs j hj)
  obtain ⟨s1, s2, s3⟩ := h.sc j hj
  have hrow := h.rows.row
  rcases hrow.2 with ⟨_, h0⟩ | ⟨g, cap, cur, hv, hb, hg, hn, hm, hs, htk⟩
  · omega
  · subst hv
    exact ⟨g, cap, u, rfl, hb, h.rows.top g rfl, h1, by rw [hrow.cellAt _ (by omega)]; exact h1, h2, h.rows.off _ u h1, by rw [hrow.cellAt _ (by omega)]; exact s1, by rw [hrow.cellAt _ (by omega)]; exact s2, by rw [hrow.cellAt _ (by omega)]; exact s3, fun i => hrow.frozenAt i⟩

/-! with the cells put away -/
def OwnQS (w : World) (lo hi : Nat) (tt t : TypeId) (v : Value) (qs : List Sq) : Prop := ∃ us, OwnQ w lo hi tt t v qs us
def SeesQS (w : World) (B : Nat) (v : Value) (qs : List Sq) : Prop := ∃ us, SeesQ w B v qs us
section
variable {w w' : World} {lo hi B : Nat} {tt t : TypeId} {v : Value} {qs : List Sq}
theorem OwnQS.form (h : OwnQS w lo hi tt t v qs) : ∃ A c, v = .slice A qs.length c := by obtain ⟨us, h⟩ := h; exact h.form
theorem OwnQS.nil (w : World) (lo hi : Nat) (tt t : TypeId) : OwnQS w lo hi tt t (.slice none 0 0) [] := ⟨[], OwnQ.nil _ _ _ _ _⟩
theorem OwnQS.below {C : Nat} (h : OwnQS w lo hi tt t v qs) (hb : Below C w w') (hB : hi ≤ C) : OwnQS w' lo hi tt t v qs := by obtain ⟨us, h⟩ := h; exact ⟨us, h.below hb hB⟩
theorem OwnQS.alloc (h : OwnQS w lo hi tt t v qs) (o : Obj) : OwnQS (w.alloc o) lo hi tt t v qs := by obtain ⟨us, h⟩ := h; exact ⟨us, h.alloc o⟩
theorem OwnQS.set (h : OwnQS w lo hi tt t v qs) (p : Addr) (u : Value) (hp : p.block < lo ∨ hi ≤ p.block) : OwnQS (w.setCell p u) lo hi tt t v qs := by obtain ⟨us, h⟩ := h; exact ⟨us, h.set p u hp⟩
theorem OwnQS.out {lo' hi' : Nat} (h : OwnQS w lo hi tt t v qs) (hb : Out lo' hi' w w') (hd : hi ≤ lo' ∨ hi' ≤ lo) : OwnQS w' lo hi tt t v qs := by obtain ⟨us, h⟩ := h; exact ⟨us, h.out hb hd⟩
theorem OwnQS.more {lo' hi' : Nat} (h : OwnQS w lo hi tt t v qs) (h1 : lo' ≤ lo) (h2 : hi ≤ hi') : OwnQS w lo' hi' tt t v qs := by obtain ⟨us, h⟩ := h; exact ⟨us, h.more h1 h2⟩
theorem OwnQS.sees (h : OwnQS w lo hi tt t v qs) : SeesQS w hi v qs := by obtain ⟨us, h⟩ := h; exact ⟨us, h.sees⟩
theorem SeesQS.below {C : Nat} (h : SeesQS w B v qs) (hb : Below C w w') (hB : B ≤ C) : SeesQS w' B v qs := by obtain ⟨us, h⟩ := h; exact ⟨us, h.below hb hB⟩
theorem SeesQS.out (h : SeesQS w B v qs) (hb : Out lo hi w w') (hB : B ≤ lo) (hw : B ≤ w.heap.size) : SeesQS w' B v qs := by obtain ⟨us, h⟩ := h; exact ⟨us, h.out hb hB hw⟩
theorem SeesQS.alloc (h : SeesQS w B v qs) (hB : B ≤ w.heap.size) (o : Obj) : SeesQS (w.alloc o) B v qs := by obtain ⟨us, h⟩ := h; exact ⟨us, h.alloc hB o⟩
theorem SeesQS.drew (h : SeesQS w B v qs) (n : Nat) : SeesQS (w.drewN n) B v qs := by obtain ⟨us, h⟩ := h; exact ⟨us, h.drew n⟩
theorem SeesQS.more {B' : Nat} (h : SeesQS w B v qs) (hB : B ≤ B') : SeesQS w B' v qs := by obtain ⟨us, h⟩ := h; exact ⟨us, h.more hB⟩
end
end Go.Proofs.Ythhbikilighemaa

namespace Go.Proofs.Ythhbikilighemaa
open Go.RowKit

def marksQ : Int → List Sq → List Sq
  | _, [] => []
  | k, q :: r => ⟨marks k q.places.length, k + q.places.length, k + q.places.length + 1, k + q.places.length + 2⟩ :: marksQ (k + q.places.length + 3) r
theorem marksQ_length : ∀ (k : Int) (qs : List Sq), (marksQ k qs).length = qs.length
  | _, [] => rfl
  | k, q :: r => by simp [marksQ, marksQ_length]
theorem marksQ_sum : ∀ (k : Int) (qs : List Sq), sumQ (marksQ k qs) = sumQ qs
  | _, [] => rfl
  | k, q :: r => by rw [marksQ, sumQ_cons, sumQ_cons, marksQ_sum, marks_length]
def markOf (k : Int) (n : Nat) : Sq := ⟨marks k n, k + n, k + n + 1, k + n + 2⟩
theorem marksQ_nth : ∀ (k : Int) (qs : List Sq) (j : Nat), j < qs.length → nthQ (marksQ k qs) j = markOf (k + ((sumQ (qs.take j) + 3 * j : Nat) : Int)) (nthQ qs j).places.length
  | _, [], _, h => by simp at h
  | k, q :: r, 0, _ => by simp [marksQ, nthQ_zero, sumQ, markOf]
  | k, q :: r, j + 1, h => by
    rw [marksQ, nthQ_succ, nthQ_succ, marksQ_nth (k + q.places.length + 3) r j (by simpa using h), List.take_succ_cons, sumQ_cons]
    congr 1
    omega
/-- the first j of a, then those of b -/
def mixQ (a b : List Sq) (j : Nat) : List Sq := a.take j ++ b.drop j
theorem mixQ_length (a b : List Sq) (j : Nat) (h : a.length = b.length) : (mixQ a b j).length = b.length := by simp [mixQ, h]; omega
theorem mixQ_nth (a b : List Sq) (j : Nat) (h : a.length = b.length) (hj : j < b.length) : nthQ (mixQ a b j) j = nthQ b j := by
  unfold nthQ mixQ
  rw [List.getElem?_append_right (by simp; omega), List.getElem?_drop, List.length_take, Nat.min_eq_left (by omega)]
  congr 2
  omega
theorem mixQ_step (a b : List Sq) (j : Nat) (h : a.length = b.length) (hj : j < b.length) : (mixQ a b j).set j (nthQ a j) = mixQ a b (j + 1) := by
  have e : a.take (j + 1) = a.take j ++ [nthQ a j] := by
    rw [List.take_succ_eq_append_getElem (by omega)]; simp [nthQ, List.getElem?_eq_getElem (show j < a.length by omega)]
  unfold mixQ
  rw [List.set_append_right _ _ (by simp; omega), List.length_take, Nat.min_eq_left (by omega), Nat.sub_self, List.drop_eq_getElem_cons hj, List.set_cons_zero, e]
  simp
theorem mixQ_zero (a b : List Sq) : mixQ a b 0 = b := by simp [mixQ]
theorem mixQ_all (a b : List Sq) (j : Nat) (h : a.length = b.length) (hj : b.length ≤ j) : mixQ a b j = a := by
  unfold mixQ; rw [List.drop_of_length_le hj, List.take_of_length_le (by omega), List.append_nil]

set_option maxRecDepth 100000 in
set_option maxHeartbeats 1000000 in
theorem eqSequence_same (u u' : Value) (ps : List Int) (l s e : Int) (w : World) (B B' : Nat) (h1 : Sees w B .i64 u ps) (h2 : Sees w B' .i64 u' ps) (hB : B ≤ w.heap.size) (hB' : B' ≤ w.heap.size) (hl : ps.length < 1000000000) :
    Calls Try.prog 48 #[.agg #[u, .int .i64 l, .int .i64 s, .int .i64 e], .agg #[u', .int .i64 l, .int .i64 s, .int .i64 e]] w fun x w' => x = .returned (.bool true) ∧ Below w.heap.size w w' := by
  have k1 : (l != l) = false := by simp
  have k2 : (s != s) = false := by simp
  have k3 : (e != e) = false := by simp
  have b0 := ((Below.refl w.heap.size w).alloc (Nat.le_refl _) (.cells #[u, .int .i64 l, .int .i64 s, .int .i64 e] 62)).alloc (by simp) (.cells #[u', .int .i64 l, .int .i64 s, .int .i64 e] 62)
  go_enter Try.func48, Try.ntmps48
  go_wp2_with fail
  refine (eqInt64S_same _ _ ps _ B B' (h1.below b0 hB) (h2.below b0 hB') hl).mono ?_
  rintro x w1 ⟨rfl, n, rfl⟩
  have b1 := below_drewN b0 n
  go_wp2
  go_ret
  exact ⟨rfl, b1⟩
set_option maxRecDepth 100000 in
set_option maxHeartbeats 2000000 in
theorem eqSequenceS_same (v u : Value) (qs : List Sq) (w : World) (B B' : Nat) (h1 : SeesQS w B v qs) (h2 : SeesQS w B' u qs) (hB : B ≤ w.heap.size) (hB' : B' ≤ w.heap.size) (hl : qs.length + sumQ qs < 300000001) :
    Calls Try.prog 26 #[v, u] w fun e w' => e = .returned (.bool true) ∧ Below w.heap.size w w' := by
  obtain ⟨us1, h1⟩ := h1
  obtain ⟨us2, h2⟩ := h2
  have H1 := Lib.hid h1
  have H2 := Lib.hid h2
  obtain ⟨A, c, rfl⟩ := h1.form
  obtain ⟨A', c', rfl⟩ := h2.form
  have TN := Lib.hid (sumQ_nth_le qs)
  clear h1 h2
  go_enter Try.func26, Try.ntmps26
  go_wp2
  go_loopw [5] (fun i wr => ∃ k : Nat, k ≤ qs.length ∧ i = .int .i64 k ∧ Hid (Below w.heap.size w wr)) (fun i _ => qs.length - (intOf i).toNat)
  case atStart => exact ⟨0, by omega, rfl, Lib.hid (Below.refl _ _)⟩
  case round =>
    obtain ⟨k, hk, rfl, hbr⟩ := hrel
    have wsz := hbr.out.size
    by_cases hlt : k < qs.length
    · have H1r := Lib.hid (H1.out.below hbr.out hB)
      have H2r := Lib.hid (H2.out.below hbr.out hB')
      obtain ⟨b, off, cc, x1, e1, hb, hc0, s1, hc1, hc2, hc3⟩ := H1r.out.at_ k hlt
      obtain ⟨b', off', cc', x2, e2, hb', hd0, s2, hd1, hd2, hd3⟩ := H2r.out.at_ k hlt
      cases e1
      cases e2
      have tn := TN.out k hlt
      obtain ⟨A1, c1, rfl, r1⟩ := s1
      obtain ⟨A2, c2, rfl, r2⟩ := s2
      obtain ⟨q, hq⟩ : ∃ q, Hid (q = nthQ qs k) := ⟨_, Lib.hid rfl⟩
      rw [← hq.out] at hc0 hc1 hc2 hc3 hd0 hd1 hd2 hd3 r1 r2 tn
      have CT := Lib.hid (eqSequence_same (.slice A1 q.places.length c1) (.slice A2 q.places.length c2) q.places q.level q.sos q.eos wr.drew B B' ⟨_, _, rfl, r1.below (drew_below wr) (by omega)⟩ ⟨_, _, rfl, r2.below (drew_below wr) (by omega)⟩ (show B ≤ wr.heap.size by omega) (show B' ≤ wr.heap.size by omega) (by omega))
      have hc1' : wr.cell? ⟨b, off + k * 4 + 1, none⟩ = some (.int .i64 q.level) := hc1
      have hc2' : wr.cell? ⟨b, off + k * 4 + 2, none⟩ = some (.int .i64 q.sos) := hc2
      have hc3' : wr.cell? ⟨b, off + k * 4 + 3, none⟩ = some (.int .i64 q.eos) := hc3
      have hd1' : wr.cell? ⟨b', off' + k * 4 + 1, none⟩ = some (.int .i64 q.level) := hd1
      have hd2' : wr.cell? ⟨b', off' + k * 4 + 2, none⟩ = some (.int .i64 q.sos) := hd2
      have hd3' : wr.cell? ⟨b', off' + k * 4 + 3, none⟩ = some (.int .i64 q.eos) := hd3
      clear r1 r2 hc1 hc2 hc3 hd1 hd2 hd3
      go_wp2
      go_region_with (go_at_call 48; refine CT.out.mono ?_; rintro e w5 ⟨rfl, b5⟩; have B5 := Lib.hid (hbr.out.trans ((show Below wr.heap.size wr w5 from ⟨b5.os, b5.tape, b5.output, b5.size, b5.block⟩).mono wsz)); clear b5)
      all_goals
        go_wp2
        go_roundw
        case rel => exact ⟨k + 1, by omega, by go_num, B5⟩
        case measure => first | omega | (simp [intOf]; omega)
    · go_wp2
      go_ret
      exact ⟨rfl, hbr.out⟩
theorem outSet (w : World) {lo hi g : Nat} (h1 : lo ≤ g) (h2 : g < hi) (i : Nat) (u : Value) : Out lo hi w (w.setCell ⟨g, i, none⟩ u) :=
  ⟨rfl, rfl, rfl, by simp, fun k _ hn => heap_setCell_other w ⟨g, i, none⟩ k u (by intro e; subst e; exact hn ⟨h1, h2⟩)⟩
set_option maxRecDepth 100000 in
set_option maxHeartbeats 2000000 in
theorem markSequenceS_own (v : Value) (qs : List Sq) (k : Int) (w : World) (lo hi : Nat) (h : OwnQS w lo hi 62 2 v qs) (hl : qs.length + sumQ qs < 300000001) (hk0 : 0 ≤ k) (hk1 : k < 1000000000) :
    Calls Try.prog 40 #[v, .int .i64 k] w fun e w' => (e = .returned (.int .i64 (k + ((sumQ qs + 3 * qs.length : Nat) : Int))) ∧ OwnQS w' lo hi 62 2 v (marksQ k qs)) ∧ Out lo hi w w' := by
  obtain ⟨us, h⟩ := h
  have HO := Lib.hid h
  obtain ⟨A, c, rfl⟩ := h.form
  clear h
  have ML := Lib.hid (marksQ_length k qs)
  go_enter Try.func40, Try.ntmps40
  go_wp2
  go_loopw [1, 5] (fun kk i wr => ∃ (j : Nat) (us : List Value), j ≤ qs.length ∧ i = .int .i64 j ∧ kk = .int .i64 (k + ((sumQ (qs.take j) + 3 * j : Nat) : Int)) ∧ Hid (OwnQ wr lo hi 62 2 (.slice A qs.length c) (mixQ (marksQ k qs) qs j) us) ∧ Hid (Out lo hi w wr)) (fun _ i _ => qs.length - (intOf i).toNat)
  case atStart => exact ⟨0, us, by omega, rfl, by simp [sumQ], by rw [mixQ_zero]; exact HO, Lib.hid (Out.refl _ _ _)⟩
  case round =>
    obtain ⟨j, us, hj, rfl, rfl, ho, hb⟩ := hrel
    have tl := sumQ_take_le qs j
    by_cases hlt : j < qs.length
    · have mlt : j < (mixQ (marksQ k qs) qs j).length := by rw [mixQ_length _ _ _ ML.out]; exact hlt
      obtain ⟨g, cc, u, e1, hg1, hg2, hu, hc0, hou, hug, hc1, hc2, hc3, hfz⟩ := ho.out.at_ j mlt
      rw [mixQ_nth _ _ _ ML.out hlt] at hou
      injection e1 with e1 e1b e1c
      clear e1b e1c hc1 hc2 hc3
      subst e1
      have HU := Lib.hid hu
      have ST := Lib.hid (sumQ_take_step qs j hlt)
      have tn := sumQ_nth_le qs j hlt
      have MN := Lib.hid (marksQ_nth k qs j hlt)
      have ML2 := Lib.hid (mixQ_length (marksQ k qs) qs j ML.out)
      have MLT := Lib.hid mlt
      obtain ⟨z1, z2, z3, S1, S2, S3⟩ : ∃ z1 z2 z3 : Int, Hid (us[j * 4 + 1]? = some (.int .i64 z1)) ∧ Hid (us[j * 4 + 2]? = some (.int .i64 z2)) ∧ Hid (us[j * 4 + 3]? = some (.int .i64 z3)) := by
        obtain ⟨s1, s2, s3⟩ := ho.out.sc j mlt
        exact ⟨_, _, _, Lib.hid s1, Lib.hid s2, Lib.hid s3⟩
      obtain ⟨t0, ht0⟩ : ∃ t0, Hid (t0 = sumQ (qs.take j)) := ⟨_, Lib.hid rfl⟩
      rw [← ht0.out] at tl tn ST MN ⊢
      obtain ⟨zs, hzs⟩ : ∃ zs, Hid (zs = (nthQ qs j).places) := ⟨_, Lib.hid rfl⟩
      rw [← hzs.out] at hou tn ST MN
      obtain ⟨A1, c1, rfl⟩ := hou.form
      have HOU := Lib.hid hou
      have UG := Lib.hid (own_ne_symm (v := .slice A1 zs.length c1) (u := .slice (some ⟨g, 0, none⟩) qs.length c) hug)
      have FZ := Lib.hid hfz
      obtain ⟨kk, hkk⟩ : ∃ kk, Hid (kk = k + ((t0 + 3 * j : Nat) : Int)) := ⟨_, Lib.hid rfl⟩
      have kk0 : 0 ≤ kk ∧ kk < 3000000000 := by have := hkk.out; omega
      rw [← hkk.out] at MN ⊢
      have Lb1 : j * 4 + 1 < qs.length * 4 := by omega
      have Lb2 : j * 4 + 2 < qs.length * 4 := by omega
      have Lb3 : j * 4 + 3 < qs.length * 4 := by omega
      clear hou mlt hfz hug
      have CT := Lib.hid (fun ww (hh : Own ww lo hi 2 .i64 (.slice A1 zs.length c1) zs) => markInt64S_own (.slice A1 zs.length c1) zs kk ww lo hi hh (by omega) (by omega) (by omega))
      go_wp2_with (first
        | (go_at_call 12
           refine (CT.out _ HOU.out).mono ?_
           rintro e w1 ⟨⟨rfl, p1⟩, g1⟩
           have P1 := Lib.hid p1
           have G1 := Lib.hid g1
           have HM := Lib.hid (ho.out.mark (n := qs.length) ML2.out.symm MLT.out HU.out g1 p1 (kk + zs.length) (kk + zs.length + 1) (kk + zs.length + 2))
           have rw1 : w1.ownsRow lo 62 4 (.slice (some ⟨g, 0, none⟩) qs.length c) qs.length us := (by have q := ho.out.rows.row.kept g1 UG.out; rw [ML2.out] at q; exact q)
           have x1 := (rw1.cellAt (j * 4 + 1) Lb1).trans S1.out
           have x2 := (rw1.cellAt (j * 4 + 2) Lb2).trans S2.out
           have x3 := (rw1.cellAt (j * 4 + 3) Lb3).trans S3.out
           have y1 := rw1.frozenAt (j * 4 + 1)
           have y2 := rw1.frozenAt (j * 4 + 2)
           have y3 := rw1.frozenAt (j * 4 + 3)
           clear p1 g1 rw1))
      have OB := Lib.hid (((hb.out.trans (Out.of_grown G1.out HOU.out.lt)).trans (outSet w1 hg1 hg2 (j * 4 + 1) (.int .i64 (kk + zs.length)))).trans ((outSet _ hg1 hg2 (j * 4 + 2) (.int .i64 (kk + zs.length + 1))).trans (outSet _ hg1 hg2 (j * 4 + 3) (.int .i64 (kk + zs.length + 2)))))
      have QF := Lib.hid (show OwnQ _ lo hi 62 2 (.slice (some ⟨g, 0, none⟩) qs.length c) (mixQ (marksQ k qs) qs (j + 1)) _ from by
        rw [← mixQ_step _ _ _ ML.out hlt, MN.out]; exact HM.out)
      have e2 : kk + (zs.length : Int) + 2 = kk + (zs.length : Int) + 1 + 1 := by omega
      rw [e2] at QF OB
      go_roundw
      case rel => exact ⟨j + 1, _, by omega, by go_num, by rw [ST.out]; have := hkk.out; congr 1; omega, QF, OB⟩
      case measure => first | omega | (simp [intOf]; omega)
    · have e : qs.take j = qs := List.take_of_length_le (by omega)
      have ej : j = qs.length := by omega
      rw [e] at *
      subst ej
      have P := ho.out
      rw [mixQ_all _ _ _ ML.out (by omega)] at P
      have HP := Lib.hid P
      clear P ho
      go_wp2
      go_ret
      exact ⟨⟨rfl, us, HP.out⟩, hb.out⟩
set_option maxRecDepth 100000 in
set_option maxHeartbeats 2000000 in
theorem heldSequenceS_own (v : Value) (qs : List Sq) (k : Int) (w : World) (B : Nat) (h : SeesQS w B v (marksQ k qs)) (hl : qs.length + sumQ qs < 300000001) (hk0 : 0 ≤ k) (hk1 : k < 1000000000) :
    Calls Try.prog 41 #[v, .int .i64 k] w fun e w' => e = .returned (.int .i64 (k + ((sumQ qs + 3 * qs.length : Nat) : Int))) ∧ w = w' := by
  obtain ⟨us, h⟩ := h
  have HO := Lib.hid h
  obtain ⟨A, c, rfl⟩ := h.form
  have ML := Lib.hid (marksQ_length k qs)
  rw [ML.out]
  clear h
  go_enter Try.func41, Try.ntmps41
  go_wp2
  go_loop [1, 5] (fun kk i => ∃ j : Nat, j ≤ qs.length ∧ i = .int .i64 j ∧ kk = .int .i64 (k + ((sumQ (qs.take j) + 3 * j : Nat) : Int))) (fun _ i => qs.length - (intOf i).toNat)
  case atStart => exact ⟨0, by omega, rfl, by simp [sumQ]⟩
  case round =>
    obtain ⟨j, hj, rfl, rfl⟩ := hrel
    have tl := sumQ_take_le qs j
    by_cases hlt : j < qs.length
    · obtain ⟨b, off, cc, u, e1, hb, hc0, hu, hc1, hc2, hc3⟩ := HO.out.at_ j (by rw [ML.out]; exact hlt)
      rw [marksQ_nth k qs j hlt] at hu hc1 hc2 hc3
      injection e1 with e1 e1b e1c
      clear e1b e1c
      subst e1
      have ST := Lib.hid (sumQ_take_step qs j hlt)
      have tn := sumQ_nth_le qs j hlt
      obtain ⟨t0, ht0⟩ : ∃ t0, Hid (t0 = sumQ (qs.take j)) := ⟨_, Lib.hid rfl⟩
      rw [← ht0.out] at tl tn ST hu hc1 hc2 hc3 ⊢
      obtain ⟨n, hn⟩ : ∃ n, Hid (n = (nthQ qs j).places.length) := ⟨_, Lib.hid rfl⟩
      rw [← hn.out] at hu hc1 hc2 hc3 tn ST
      obtain ⟨kk, hkk⟩ : ∃ kk, Hid (kk = k + ((t0 + 3 * j : Nat) : Int)) := ⟨_, Lib.hid rfl⟩
      have kk0 : 0 ≤ kk ∧ kk < 3000000000 := by have := hkk.out; omega
      rw [← hkk.out] at hu hc1 hc2 hc3 ⊢
      have g1 : w.cell? ⟨b, off + j * 4 + 1, none⟩ = some (.int .i64 (kk + n)) := hc1
      have g2 : w.cell? ⟨b, off + j * 4 + 2, none⟩ = some (.int .i64 (kk + n + 1)) := hc2
      have e2 : kk + (n : Int) + 1 + 1 = kk + (n : Int) + 2 := by omega
      have g3 : w.cell? ⟨b, off + j * 4 + 3, none⟩ = some (.int .i64 (kk + n + 1 + 1)) := by
        rw [e2]; exact hc3
      clear e2
      have HU := Lib.hid (show Sees w B .i64 u (marks kk n) from hu)
      obtain ⟨A1, c1, rfl, _⟩ := hu
      have q1 : (kk + (n : Int) != kk + (n : Int)) = false := by simp
      have q2 : (kk + (n : Int) + 1 != kk + (n : Int) + 1) = false := by simp
      have q3 : (kk + (n : Int) + 1 + 1 != kk + (n : Int) + 1 + 1) = false := by simp
      have hnn : ¬ (kk + (n : Int) < 0) := by omega
      have nb : n < 1000000000 := by omega
      clear hc1 hc2 hc3
      have CT := Lib.hid (heldInt64S_own (.slice A1 (marks kk n).length c1) n kk w B (by have := HU.out; exact this) nb (by omega) (by omega))
      go_wp2_with (go_at_call 64; refine CT.out.mono ?_; rintro e w1 ⟨rfl, rfl⟩)
      go_round
      case rel => exact ⟨j + 1, by omega, by go_num, by rw [ST.out]; have := hkk.out; congr 1; omega⟩
      case measure => first | omega | (simp [intOf]; omega)
    · have e : qs.take j = qs := List.take_of_length_le (by omega)
      have ej : j = qs.length := by omega
      rw [e] at *
      subst ej
      go_wp2
      go_ret
      exact ⟨rfl, rfl⟩
set_option maxRecDepth 100000 in
set_option maxHeartbeats 400000 in
theorem eqSequencesResult_same (x0 : Int) (w : World) (v1 u1 : Value) (zs1 : List Sq) (B B' : Nat) (h1 : SeesQS w B v1 zs1) (g1 : SeesQS w B' u1 zs1) (l1 : zs1.length + sumQ zs1 < 300000001) (hB : B ≤ w.heap.size) (hB' : B' ≤ w.heap.size) :
    Calls Try.prog 17 #[.agg #[.int .i64 x0, v1], .agg #[.int .i64 x0, u1]] w fun e w' => e = .returned (.bool true) ∧ Below w.heap.size w w' := by
  have k0 : (x0 != x0) = false := by simp
  have b0 := ((Below.refl w.heap.size w).alloc (Nat.le_refl _) (.cells #[.int .i64 x0, v1] 35)).alloc (by simp) (.cells #[.int .i64 x0, u1] 35)
  go_enter Try.func17, Try.ntmps17
  go_wp2_with fail
  refine (eqSequenceS_same _ _ zs1 _ B B' (h1.below b0 hB) (g1.below b0 hB') (by simp; omega) (by simp; omega) l1).mono ?_
  rintro e w1 ⟨rfl, b1⟩
  have b2 := below_on b0 b1 (Nat.le_refl _)
  go_wp2
  go_ret
  exact ⟨rfl, b2⟩
set_option maxRecDepth 100000 in
set_option maxHeartbeats 400000 in
theorem markSequencesResult_own (x0 : Int) (v1 : Value) (zs1 : List Sq) (k : Int) (w : World) (lo hi : Nat) (h1 : OwnQS w lo hi 62 2 v1 zs1) (l1 : zs1.length + sumQ zs1 < 300000001) (hk0 : 0 ≤ k) (hk1 : k < 1000000000) (hw : hi ≤ w.heap.size) :
    Calls Try.prog 18 #[.agg #[.int .i64 x0, v1], .int .i64 k] w fun e w' => (e = .returned (.int .i64 (k + ((sumQ zs1 + 3 * zs1.length : Nat) : Int))) ∧ OwnQS w' lo hi 62 2 v1 (marksQ (k) zs1)) ∧ Out lo hi w w' := by
  have b0 := (Below.refl w.heap.size w).alloc (Nat.le_refl _) (.cells #[.int .i64 x0, v1] 35)
  have o1 := h1.below b0 hw
  have q0 : Out lo hi w _ := Out.of_below b0
  go_enter Try.func18, Try.ntmps18
  go_wp2_with fail
  refine (markSequenceS_own v1 zs1 _ _ lo hi o1 l1 (by omega) (by omega)).mono ?_
  rintro e w1 ⟨⟨rfl, p1⟩, g1⟩
  have q1 := q0.trans g1
  go_wp2
  go_ret
  exact ⟨⟨rfl, p1⟩, q1⟩
set_option maxRecDepth 100000 in
set_option maxHeartbeats 400000 in
theorem heldSequencesResult_own (x0 : Int) (v1 : Value) (n1 : List Sq) (k : Int) (w : World) (B : Nat) (h1 : SeesQS w B v1 (marksQ (k) n1)) (l1 : n1.length + sumQ n1 < 300000001) (hk0 : 0 ≤ k) (hk1 : k < 1000000000) (hB : B ≤ w.heap.size) :
    Calls Try.prog 19 #[.agg #[.int .i64 x0, v1], .int .i64 k] w fun e w' => e = .returned (.int .i64 (k + ((sumQ n1 + 3 * n1.length : Nat) : Int))) ∧ Below w.heap.size w w' := by
  have b0 := (Below.refl w.heap.size w).alloc (Nat.le_refl _) (.cells #[.int .i64 x0, v1] 35)
  go_enter Try.func19, Try.ntmps19
  go_wp2_with fail
  refine (heldSequenceS_own v1 n1 _ _ B (h1.below b0 hB) l1 (by omega) (by omega)).mono ?_
  rintro e w1 ⟨rfl, rfl⟩
  have hnn : ¬ (k + ((sumQ n1 + 3 * n1.length : Nat) : Int) < 0) := by omega
  go_wp2
  go_ret
  exact ⟨rfl, b0⟩
end Go.Proofs.Ythhbikilighemaa

namespace Go.Proofs.Ythhbikilighemaa
open Go.RowKit Go.Maps

theorem sequencesOf_vals (v : Value) (zs : List Int) (b : Int) (w : World) (B : Nat) (h : Sees w B .i64 v zs) (hB : B ≤ w.heap.size) (l : zs.length < 1000000000) (hwf : ∀ n ∈ zs, (Lit.int .i64 n).wf = true) (hcp : CapV v) (hb : (Lit.int .i64 b).wf = true) :
    Calls Try.prog 16 #[v, .int .i64 b] w fun e w' => (∃ u, e = .returned (.agg #[.int .i64 (paraF zs b), u]) ∧ OwnQS w' w.heap.size w'.heap.size 62 2 u (seqsV zs b)) ∧ Below w.heap.size w w' :=
  (sequencesOf_val v zs b w B h hB l hwf hcp hb).mono fun _ _ ⟨⟨u, us, he, ho⟩, hb⟩ => ⟨⟨u, he, us, ho⟩, hb⟩
set_option maxRecDepth 100000 in
set_option maxHeartbeats 1000000 in
theorem specSequencesOf_vals (v : Value) (zs : List Int) (b : Int) (w : World) (B : Nat) (h : Sees w B .i64 v zs) (hB : B ≤ w.heap.size) (l : zs.length < 1000000000) (_ : ∀ n ∈ zs, (Lit.int .i64 n).wf = true) (hcp : CapV v) (_ : (Lit.int .i64 b).wf = true) :
    Calls Try.prog 15 #[v, .int .i64 b] w fun e w' => (∃ u, e = .returned (.agg #[.int .i64 (paraF zs b), u]) ∧ OwnQS w' w.heap.size w'.heap.size 62 2 u (seqsV zs b)) ∧ Below w.heap.size w w' := by
  obtain ⟨A, c, rfl, hr⟩ := h
  have hc := (hcp A zs.length c rfl).1
  have HR := Lib.hid hr
  clear hr hcp
  have b0 := (Below.refl w.heap.size w).alloc (Nat.le_refl _) (.cells #[.int .i64 0, .slice none 0 0] 35)
  have k0 := Blk.new w 35 #[.int .i64 0, .slice none 0 0]
  have R1 := Lib.hid (HR.out.below ((Below.refl B w).alloc hB (.cells #[.int .i64 0, .slice none 0 0] 35)) (Nat.le_refl _))
  by_cases hz : paraF zs b = 0
  · have EC := Lib.hid (show seqsV zs b = seqsN (classesN zs) b by unfold seqsV; rw [if_pos hz])
    have HZ := Lib.hid hz
    have PZ := paraF_zero hz
    have HBb := Lib.hid (show 0 ≤ b ∧ b ≤ 1 from ⟨PZ.2.1, PZ.2.2.1⟩)
    have hll := (textF_zero PZ.1).1
    have HA := Lib.hid (textF_zero PZ.1).2
    have K0 := Lib.hid k0
    have B0 := Lib.hid b0
    have sz0 : (w.alloc (.cells #[.int .i64 0, .slice none 0 0] 35)).heap.size = w.heap.size + 1 := by simp
    clear k0 b0 PZ
    go_enter Try.func15, Try.ntmps15
    go_wp2_with fail
    refine (specParaFault_any A zs c b _ B R1.out l).mono ?_
    rintro e w' ⟨rfl, rfl⟩
    rw [hz]
    clear hz
    go_wp2_with fail
    refine (l4Explicit_any A zs c b _ B R1.out (by omega) hll HA.out hc HBb.out).mono ?_
    rintro e w1 ⟨⟨u1, u2, rfl, o1, o2, _⟩, b1⟩
    obtain ⟨A1, c1, rfl⟩ := o1.form
    obtain ⟨A2, c2, rfl⟩ := o2.form
    have K1 := Lib.hid (K0.out.below b1 K0.out.lt)
    have B1 := Lib.hid (below_on B0.out b1 (Nat.le_refl _))
    have s1 := K1.out.lt
    have R2 := Lib.hid (Rd.of o1.1)
    have RT := Lib.hid ((R1.out.below b1 (by omega)).more (show B ≤ w1.heap.size by omega))
    clear o1 o2 b1
    go_wp2_with fail
    refine (l5Sequences_any A A1 zs (levN (classesN zs) b) c c1 b _ _ RT.out R2.out (Nat.le_refl _) hll HA.out HBb.out rfl).mono ?_
    rintro e w3 ⟨⟨v3, us, rfl, o3⟩, b3⟩
    obtain ⟨A3, c3, rfl⟩ := o3.form
    have k3 := K1.out.below b3 K1.out.lt
    have B3 := Lib.hid (below_on B1.out b3 (Nat.le_refl _))
    have O3 := Lib.hid o3
    have hd0 := k3.cell 0 (u := .int .i64 0) rfl
    have hd1 := k3.cell 1 (u := .slice none 0 0) rfl
    have hf0 := k3.frozen 0
    have hf1 := k3.frozen 1
    clear o3 b3
    go_wp2
    refine bodyPost_ret (v := .agg #[.int .i64 0, .slice A3 (seqsN (classesN zs) b).length c3]) (by simp [results, Try.results15, go_sem, hd0, hd1]) rfl ?_
    rw [EC.out, HZ.out]
    exact ⟨⟨_, rfl, us, ((O3.out.set _ _ (.inl (by simp; omega))).set _ _ (.inl (by simp; omega))).more (by omega) (by simp)⟩, (B3.out.setCell (by simp) _).setCell (by simp) _⟩
  · have EC := Lib.hid (show seqsV zs b = [] by unfold seqsV; rw [if_neg hz])
    obtain ⟨q, hq⟩ : ∃ q, Hid (q = paraF zs b) := ⟨_, Lib.hid rfl⟩
    have hne : (q != 0) = true := by rw [hq.out]; simpa using hz
    have hd0 := k0.cell 0 (u := .int .i64 0) rfl
    have hd1 := k0.cell 1 (u := .slice none 0 0) rfl
    have hf0 := k0.frozen 0
    have hf1 := k0.frozen 1
    clear hz
    go_enter Try.func15, Try.ntmps15
    go_wp2_with fail
    refine (specParaFault_any A zs c b _ B R1.out l).mono ?_
    rintro e w' ⟨rfl, rfl⟩
    rw [← hq.out]
    go_wp2
    refine bodyPost_ret (v := .agg #[.int .i64 q, .slice none 0 0]) (by simp [results, Try.results15, go_sem, hd0, hd1]) rfl ?_
    rw [EC.out, ← hq.out]
    exact ⟨⟨_, rfl, OwnQS.nil _ _ _ _ _⟩, (Below.refl _ _).alloc (Nat.le_refl _) _⟩
end Go.Proofs.Ythhbikilighemaa

namespace Go.Proofs.Ythhbikilighemaa
open Go.RowKit

end Go.Proofs.Ythhbikilighemaa

namespace Go.Proofs.Ythhbikilighemaa
open Go.ChangeShapes Go.WideShapes Go.ChangeAt Go.RowKit

theorem trodAll_kept {H : Type} {enc : TypeId × Value → H} {P : Program} (hl : laidOutB P = true) {W W' : World} (hb : Below W.heap.size W W') :
    ∀ (ts : List TypeId) (vs : List Value) (ds : List (DataW H)) (ps : List MemPlace), (∀ t ∈ ts, P.readableRec t = true ∧ t < P.types.size) →
      DataW.TrodAll enc P W 0 (fun _ => true) true ts vs ds ps → (∀ x ∈ ps, x.block < W.heap.size) →
      DataW.TrodAll enc P W' 0 (fun b => decide (b < W.heap.size)) true ts vs ds ps
  | [], [], [], ps, _, h, _ => h
  | t :: ts, v :: vs, d :: ds, ps, ht, h, hlt => by
    obtain ⟨p, q, h1, h2, rfl⟩ := h
    exact ⟨p, q, Below.trod hl (ht t (by simp)).1 (ht t (by simp)).2 h1 hb (fun x hx => hlt x (by simp [hx])),
      trodAll_kept hl hb ts vs ds q (fun t' h' => ht t' (by simp [h'])) h2 (fun x hx => hlt x (by simp [hx])), rfl⟩
  | [], _ :: _, _, _, _, h, _ => by simp [DataW.TrodAll] at h
  | [], [], _ :: _, _, _, h, _ => by simp [DataW.TrodAll] at h
  | _ :: _, [], _, _, _, h, _ => by simp [DataW.TrodAll] at h
  | _ :: _, _ :: _, [], _, _, h, _ => by simp [DataW.TrodAll] at h

theorem law_post {H : Type} {enc : TypeId × Value → H} {P : Program} {f : Func} {s : ChangeSpec} {tb : TypeId} {W W' : World} {args : Array Value} {ds : List (DataW H)} {before : List MemPlace}
    (hl : laidOutB P = true) (hts : ∀ t ∈ f.params.toList, P.readableRec t = true ∧ t < P.types.size) (hres : f.resultTypes = #[tb]) (htb : P.underlying tb = some .bool)
    (hvars : s.vars = []) (hr : (s.fn H ds).results = [.lit (.bool true)]) (ha : (s.fn H ds).args = ds) (hv : (s.fn H ds).vars = [])
    (hW : DataW.Whole enc P f.params.toList s.vars false W args.toList ds [] before) (hb : Below W.heap.size W W') :
    s.post enc P f false true false false W args (.bool true) W' := by
  have hW' := hW
  obtain ⟨p, q, hA, hV, rfl, _, _⟩ := hW
  rw [hvars] at hV
  obtain ⟨_, rfl⟩ := trodVars_none hV
  refine ⟨ds, [], p ++ [], [], p, [], hW', ?_, ?_, ?_, hb.frame _, fun h => by cases h⟩
  · rw [List.append_nil, hr, hres]
    exact trodAll_mk1 (shut_bool htb true)
  · rw [List.append_nil, ha]
    exact trodAll_kept hl hb _ _ _ _ hts hA (fun x hx => by simpa using hW'.lt x (by simpa using hx))
  · rw [List.append_nil, hv, hvars]
    rfl

/-- The same where the row names variables of the program's own. -/
theorem law_postV {H : Type} {enc : TypeId × Value → H} {P : Program} {f : Func} {s : ChangeSpec} {tb : TypeId} {W W' : World} {args : Array Value} {ds gs : List (DataW H)} {before : List MemPlace}
    (hl : laidOutB P = true) (hts : ∀ t ∈ f.params.toList, P.readableRec t = true ∧ t < P.types.size) (hvs : varsRowed P s.vars = true) (hres : f.resultTypes = #[tb]) (htb : P.underlying tb = some .bool)
    (hr : (s.fn H (ds ++ gs)).results = [.lit (.bool true)]) (ha : (s.fn H (ds ++ gs)).args = ds) (hv : (s.fn H (ds ++ gs)).vars = gs)
    (hW : DataW.Whole enc P f.params.toList s.vars false W args.toList ds gs before) (hb : Below W.heap.size W W') :
    s.post enc P f false true false false W args (.bool true) W' := by
  have hW' := hW
  obtain ⟨p, q, hA, hV, rfl, _, _⟩ := hW
  refine ⟨ds, gs, p ++ q, [], p, q, hW', ?_, ?_, ?_, hb.frame _, fun h => by cases h⟩
  · rw [hr, hres]
    exact trodAll_mk1 (shut_bool htb true)
  · rw [ha]
    exact trodAll_kept hl hb _ _ _ _ hts hA (fun x hx => by simpa using hW'.lt x (by simp [hx]))
  · rw [hv]
    exact Below.trodVars hl hb hvs hV

/-- An argument that is a slice of numbers: the numbers, and that it reads so. -/
theorem open_nums {H : Type} {enc : TypeId × Value → H} {P : Program} {W : World} {r : Reach} {base : Nat} {t e : TypeId} {kd : IntKind} {v : Value} {d : DataW H} {p : List MemPlace}
    (ht : P.underlying t = some (.slice e)) (he : P.underlying e = some (.int kd)) (hc : P.cellsOf e = 1) (hv : Value.okWide P W r base t v)
    (h : DataW.Trod enc P W 0 (fun _ => true) true t v d p) (hlt : ∀ x ∈ p, x.block < W.heap.size) :
    ∃ (A : Option Addr) (zs : List Int) (c : Nat), v = .slice A zs.length c ∧ Rd W W.heap.size A (nums kd zs) ∧ ∀ n ∈ zs, (Lit.int kd n).wf = true := by
  obtain ⟨a0, len, cap, rfl⟩ := okWide_slice ht hv
  obtain ⟨fuel, hf⟩ := h
  rcases open_ints ht he hc hf with ⟨hcs, hx⟩ | ⟨a, len', cap', zs, hcs, _, hl, hm, hz, hx, hcell, hwz⟩
  · simp [Value.cells] at hcs
    obtain ⟨rfl, rfl, rfl⟩ := hcs
    exact ⟨none, [], 0, rfl, Rd.nil _ _ _, by simp⟩
  · simp [Value.cells] at hcs
    obtain ⟨rfl, rfl, rfl⟩ := hcs
    simp only [Prod.mk.injEq] at hx
    obtain ⟨rfl, rfl⟩ := hx
    simp only [if_true] at hz
    refine ⟨some a, zs.take len, cap, by simp; omega, ?_, fun n hn => hwz n (List.mem_of_mem_take hn)⟩
    intro k u hu
    have hk : k < (zs.take len).length := by
      have := (List.getElem?_eq_some_iff.1 hu).1
      simpa [nums] using this
    have hk' : k < zs.length := by simp at hk; omega
    obtain ⟨b, off, spot⟩ := a
    have hspot : spot = none := by simpa [Addr.add] using World.cell?_spot (hcell 0 (by omega))
    subst hspot
    rw [nums_get _ _ _ hk] at hu
    injection hu with hu
    refine ⟨b, off, rfl, hlt (.cell b off) (MemPlace.mem_row.2 ⟨0, by omega, by simp⟩), ?_⟩
    rw [← add_plain, hcell k hk', ← hu]
    have : k < len := by simp at hk; omega
    simp [nth, this, List.getD]
end Go.Proofs.Ythhbikilighemaa

namespace Go.Proofs.Ythhbikilighemaa.fnExactSequencesOf
open Go.ChangeShapes Go.WideShapes Go.ChangeAt Go.RowKit

set_option maxRecDepth 100000 in
set_option maxHeartbeats 1000000 in
theorem walk (A0 : Option Addr) (zs0 : List Int) (c0 : Nat) (x1 : Int) (w : World) (r0 : Rd w w.heap.size A0 (nums .i64 zs0)) (hw0 : ∀ n ∈ zs0, (Lit.int .i64 n).wf = true) (hx1 : (Lit.int .i64 x1).wf = true) :
    Calls Try.prog 4 #[.slice A0 zs0.length c0, .int .i64 x1] w fun e w' => e = .returned (.bool true) ∧ Below w.heap.size w w' := by
  by_cases hl0 : 1048576 < zs0.length
  · go_enter Try.func4, Try.ntmps4
    go_wp2
    go_ret
    exact ⟨rfl, Below.refl _ _⟩
  have l0 : zs0.length < 1000000000 := by omega
  have a0 : Sees w w.heap.size .i64 (.slice A0 zs0.length c0) zs0 := ⟨_, _, rfl, r0⟩
  replace hl0 := Nat.le_of_not_lt hl0
  have g1 : (seqsV zs0 x1).length + sumQ (seqsV zs0 x1) < 300000001 := by have := seqsV_bound zs0 x1; omega
  have hb := Below.refl w.heap.size w
  go_enter Try.func4, Try.ntmps4
  go_wp2_with fail
  refine (toInt64S_own _ _ _ _ a0 (by omega) (by omega)).mono ?_
  rintro e w1 ⟨⟨v1, rfl, o1⟩, b1⟩
  have s1 := b1.size
  replace a0 := a0.below b1 (by omega)
  replace hb := below_on hb b1 (Nat.le_refl _)
  go_wp2_with fail
  refine (specSequencesOf_vals _ _ _ _ _ o1.sees (by omega) l0 hw0 o1.capv hx1).mono ?_
  rintro e w2 ⟨⟨u2_1, rfl, p2_1⟩, b2⟩
  obtain ⟨U2_1, C2_1, rfl⟩ := p2_1.form
  have s2 := b2.size
  replace a0 := a0.below b2 (by omega)
  replace o1 := o1.below b2 (by omega)
  replace hb := below_on hb b2 (Nat.le_refl _)
  go_wp2_with fail
  refine (toInt64S_own _ _ _ _ (a0.alloc (by omega) _) (by simp <;> omega) (by omega)).mono ?_
  rintro e w3 ⟨⟨v3, rfl, o3⟩, b3⟩
  replace o3 := o3.more (Nat.succ_le_of_lt (alloc_lt _ _)) (Nat.le_refl _)
  have k3 := (Blk.new w2 35 #[.int .i64 (paraF zs0 x1), .slice U2_1 (seqsV zs0 x1).length C2_1]).below b3 (by simp)
  have t3 := k3.lt
  replace b3 := below_alloc b3
  have s3 := b3.size
  replace a0 := a0.below b3 (by omega)
  replace p2_1 := p2_1.below b3 (by omega)
  replace hb := below_on hb b3 (Nat.le_refl _)
  have ck30 := k3.cell 0 (u := .int .i64 (paraF zs0 x1)) rfl
  have ck31 := k3.cell 1 (u := .slice U2_1 (seqsV zs0 x1).length C2_1) rfl
  go_wp2_with fail
  clear ck30 ck31
  refine (sequencesOf_vals _ _ _ _ _ o3.sees (by omega) l0 hw0 o3.capv hx1).mono ?_
  rintro e w4 ⟨⟨u4_1, rfl, p4_1⟩, b4⟩
  obtain ⟨U4_1, C4_1, rfl⟩ := p4_1.form
  have s4 := b4.size
  replace a0 := a0.below b4 (by omega)
  replace p2_1 := p2_1.below b4 (by omega)
  replace k3 := k3.below b4 k3.lt
  replace o3 := o3.below b4 (by omega)
  replace hb := below_on hb b4 (Nat.le_refl _)
  have ck30 := (k3.alloc (.cells #[.int .i64 (paraF zs0 x1), .slice U4_1 (seqsV zs0 x1).length C4_1] 35)).cell 0 (u := .int .i64 (paraF zs0 x1)) rfl
  have ck31 := (k3.alloc (.cells #[.int .i64 (paraF zs0 x1), .slice U4_1 (seqsV zs0 x1).length C4_1] 35)).cell 1 (u := .slice U2_1 (seqsV zs0 x1).length C2_1) rfl
  go_wp2_with fail
  clear ck30 ck31
  refine (eqSequencesResult_same _ _ _ _ _ _ _ ((p4_1.alloc _).sees) ((p2_1.alloc _).sees) g1 (by simp <;> omega) (by simp <;> omega)).mono ?_
  rintro e w5 ⟨rfl, b5⟩
  have k5 := (Blk.new w4 35 #[.int .i64 (paraF zs0 x1), .slice U4_1 (seqsV zs0 x1).length C4_1]).below b5 (by simp)
  have t5 := k5.lt
  replace b5 := below_alloc b5
  have s5 := b5.size
  replace a0 := a0.below b5 (by omega)
  replace p2_1 := p2_1.below b5 (by omega)
  replace k3 := k3.below b5 k3.lt
  replace o3 := o3.below b5 (by omega)
  replace p4_1 := p4_1.below b5 (by omega)
  replace hb := below_on hb b5 (Nat.le_refl _)
  have ck30 := k3.cell 0 (u := .int .i64 (paraF zs0 x1)) rfl
  have ck31 := k3.cell 1 (u := .slice U2_1 (seqsV zs0 x1).length C2_1) rfl
  have ck50 := k5.cell 0 (u := .int .i64 (paraF zs0 x1)) rfl
  have ck51 := k5.cell 1 (u := .slice U4_1 (seqsV zs0 x1).length C4_1) rfl
  go_wp2_with fail
  clear ck30 ck31 ck50 ck51
  refine (toInt64S_own _ _ _ _ a0 (by omega) (by omega)).mono ?_
  rintro e w6 ⟨⟨v6, rfl, o6⟩, b6⟩
  have s6 := b6.size
  replace a0 := a0.below b6 (by omega)
  replace p2_1 := p2_1.below b6 (by omega)
  replace k3 := k3.below b6 k3.lt
  replace o3 := o3.below b6 (by omega)
  replace p4_1 := p4_1.below b6 (by omega)
  replace k5 := k5.below b6 k5.lt
  replace hb := below_on hb b6 (Nat.le_refl _)
  have ck30 := k3.cell 0 (u := .int .i64 (paraF zs0 x1)) rfl
  have ck31 := k3.cell 1 (u := .slice U2_1 (seqsV zs0 x1).length C2_1) rfl
  have ck50 := k5.cell 0 (u := .int .i64 (paraF zs0 x1)) rfl
  have ck51 := k5.cell 1 (u := .slice U4_1 (seqsV zs0 x1).length C4_1) rfl
  go_wp2_with fail
  clear ck30 ck31 ck50 ck51
  refine (eqInt64S_same _ _ _ _ _ _ o3.sees o6.sees (by omega)).mono ?_
  rintro e w7 ⟨rfl, n7, e7⟩
  have b7 := below_drawn e7
  clear e7
  have s7 := b7.size
  replace a0 := a0.below b7 (by omega)
  replace p2_1 := p2_1.below b7 (by omega)
  replace k3 := k3.below b7 k3.lt
  replace o3 := o3.below b7 (by omega)
  replace p4_1 := p4_1.below b7 (by omega)
  replace k5 := k5.below b7 k5.lt
  replace o6 := o6.below b7 (by omega)
  replace hb := below_on hb b7 (Nat.le_refl _)
  have ck30 := k3.cell 0 (u := .int .i64 (paraF zs0 x1)) rfl
  have ck31 := k3.cell 1 (u := .slice U2_1 (seqsV zs0 x1).length C2_1) rfl
  have ck50 := k5.cell 0 (u := .int .i64 (paraF zs0 x1)) rfl
  have ck51 := k5.cell 1 (u := .slice U4_1 (seqsV zs0 x1).length C4_1) rfl
  go_wp2_with fail
  clear ck30 ck31 ck50 ck51
  refine (markInt64S_own _ _ _ _ _ _ o3 l0 (by omega) (by omega)).mono ?_
  rintro e w8 ⟨⟨rfl, -⟩, g8_⟩
  have q8 := Out.of_grown g8_ o3.lt
  clear g8_
  have s8 := q8.size
  replace a0 := a0.out q8 (by omega) (by omega)
  replace p2_1 := p2_1.out q8 (by omega)
  replace k3 := k3.out q8 (by omega)
  replace p4_1 := p4_1.out q8 (by omega)
  replace k5 := k5.out q8 (by omega)
  replace hb := hb.trans (q8.to_below (by omega) (by omega))
  have ck30 := k3.cell 0 (u := .int .i64 (paraF zs0 x1)) rfl
  have ck31 := k3.cell 1 (u := .slice U2_1 (seqsV zs0 x1).length C2_1) rfl
  have ck50 := k5.cell 0 (u := .int .i64 (paraF zs0 x1)) rfl
  have ck51 := k5.cell 1 (u := .slice U4_1 (seqsV zs0 x1).length C4_1) rfl
  go_wp2_with fail
  clear ck30 ck31 ck50 ck51
  refine (eqSequencesResult_same _ _ _ _ _ _ _ (p4_1.sees) (p2_1.sees) g1 (by omega) (by omega)).mono ?_
  rintro e w9 ⟨rfl, b9⟩
  have s9 := b9.size
  replace a0 := a0.below b9 (by omega)
  replace p2_1 := p2_1.below b9 (by omega)
  replace k3 := k3.below b9 k3.lt
  replace p4_1 := p4_1.below b9 (by omega)
  replace k5 := k5.below b9 k5.lt
  replace hb := below_on hb b9 (Nat.le_refl _)
  have ck30 := k3.cell 0 (u := .int .i64 (paraF zs0 x1)) rfl
  have ck31 := k3.cell 1 (u := .slice U2_1 (seqsV zs0 x1).length C2_1) rfl
  have ck50 := k5.cell 0 (u := .int .i64 (paraF zs0 x1)) rfl
  have ck51 := k5.cell 1 (u := .slice U4_1 (seqsV zs0 x1).length C4_1) rfl
  go_wp2_with fail
  clear ck30 ck31 ck50 ck51
  refine (markSequencesResult_own _ _ _ 1 _ _ _ p4_1 g1  (by omega) (by omega) (by omega)).mono ?_
  rintro e w10 ⟨⟨rfl, m4_1⟩, q10⟩
  have s10 := q10.size
  replace a0 := a0.out q10 (by omega) (by omega)
  replace p2_1 := p2_1.out q10 (by omega)
  replace k3 := k3.out q10 (by omega)
  replace k5 := k5.out q10 (by omega)
  replace hb := hb.trans (q10.to_below (by omega) (by omega))
  have ck30 := k3.cell 0 (u := .int .i64 (paraF zs0 x1)) rfl
  have ck31 := k3.cell 1 (u := .slice U2_1 (seqsV zs0 x1).length C2_1) rfl
  have ck50 := k5.cell 0 (u := .int .i64 (paraF zs0 x1)) rfl
  have ck51 := k5.cell 1 (u := .slice U4_1 (seqsV zs0 x1).length C4_1) rfl
  go_wp2_with fail
  clear ck30 ck31 ck50 ck51
  refine (heldSequencesResult_own _ _ _ 1 _ _ m4_1.sees g1 (by omega) (by omega) (by omega)).mono ?_
  rintro e w11 ⟨rfl, b11⟩
  have s11 := b11.size
  replace a0 := a0.below b11 (by omega)
  replace p2_1 := p2_1.below b11 (by omega)
  replace k3 := k3.below b11 k3.lt
  replace k5 := k5.below b11 k5.lt
  replace m4_1 := m4_1.below b11 (by omega)
  replace hb := below_on hb b11 (Nat.le_refl _)
  have ck30 := k3.cell 0 (u := .int .i64 (paraF zs0 x1)) rfl
  have ck31 := k3.cell 1 (u := .slice U2_1 (seqsV zs0 x1).length C2_1) rfl
  have ck50 := k5.cell 0 (u := .int .i64 (paraF zs0 x1)) rfl
  have ck51 := k5.cell 1 (u := .slice U4_1 (seqsV zs0 x1).length C4_1) rfl
  go_wp2_with fail
  clear ck30 ck31 ck50 ck51
  refine (toInt64S_own _ _ _ _ a0 (by omega) (by omega)).mono ?_
  rintro e w12 ⟨⟨v12, rfl, o12⟩, b12⟩
  have s12 := b12.size
  replace a0 := a0.below b12 (by omega)
  replace p2_1 := p2_1.below b12 (by omega)
  replace k3 := k3.below b12 k3.lt
  replace k5 := k5.below b12 k5.lt
  replace m4_1 := m4_1.below b12 (by omega)
  replace hb := below_on hb b12 (Nat.le_refl _)
  have ck30 := k3.cell 0 (u := .int .i64 (paraF zs0 x1)) rfl
  have ck31 := k3.cell 1 (u := .slice U2_1 (seqsV zs0 x1).length C2_1) rfl
  have ck50 := k5.cell 0 (u := .int .i64 (paraF zs0 x1)) rfl
  have ck51 := k5.cell 1 (u := .slice U4_1 (seqsV zs0 x1).length C4_1) rfl
  go_wp2_with fail
  clear ck30 ck31 ck50 ck51
  refine (sequencesOf_vals _ _ _ _ _ o12.sees (by omega) l0 hw0 o12.capv hx1).mono ?_
  rintro e w13 ⟨⟨u13_1, rfl, p13_1⟩, b13⟩
  obtain ⟨U13_1, C13_1, rfl⟩ := p13_1.form
  have s13 := b13.size
  replace a0 := a0.below b13 (by omega)
  replace p2_1 := p2_1.below b13 (by omega)
  replace k3 := k3.below b13 k3.lt
  replace k5 := k5.below b13 k5.lt
  replace m4_1 := m4_1.below b13 (by omega)
  replace o12 := o12.below b13 (by omega)
  replace hb := below_on hb b13 (Nat.le_refl _)
  have ck30 := (k3.alloc (.cells #[.int .i64 (paraF zs0 x1), .slice U13_1 (seqsV zs0 x1).length C13_1] 35)).cell 0 (u := .int .i64 (paraF zs0 x1)) rfl
  have ck31 := (k3.alloc (.cells #[.int .i64 (paraF zs0 x1), .slice U13_1 (seqsV zs0 x1).length C13_1] 35)).cell 1 (u := .slice U2_1 (seqsV zs0 x1).length C2_1) rfl
  have ck50 := (k5.alloc (.cells #[.int .i64 (paraF zs0 x1), .slice U13_1 (seqsV zs0 x1).length C13_1] 35)).cell 0 (u := .int .i64 (paraF zs0 x1)) rfl
  have ck51 := (k5.alloc (.cells #[.int .i64 (paraF zs0 x1), .slice U13_1 (seqsV zs0 x1).length C13_1] 35)).cell 1 (u := .slice U4_1 (seqsV zs0 x1).length C4_1) rfl
  go_wp2_with fail
  clear ck30 ck31 ck50 ck51
  refine (eqSequencesResult_same _ _ _ _ _ _ _ ((p13_1.alloc _).sees) ((p2_1.alloc _).sees) g1 (by simp <;> omega) (by simp <;> omega)).mono ?_
  rintro e w14 ⟨rfl, b14⟩
  have k14 := (Blk.new w13 35 #[.int .i64 (paraF zs0 x1), .slice U13_1 (seqsV zs0 x1).length C13_1]).below b14 (by simp)
  have t14 := k14.lt
  replace b14 := below_alloc b14
  have s14 := b14.size
  replace a0 := a0.below b14 (by omega)
  replace p2_1 := p2_1.below b14 (by omega)
  replace k3 := k3.below b14 k3.lt
  replace k5 := k5.below b14 k5.lt
  replace m4_1 := m4_1.below b14 (by omega)
  replace p13_1 := p13_1.below b14 (by omega)
  replace hb := below_on hb b14 (Nat.le_refl _)
  have ck30 := k3.cell 0 (u := .int .i64 (paraF zs0 x1)) rfl
  have ck31 := k3.cell 1 (u := .slice U2_1 (seqsV zs0 x1).length C2_1) rfl
  have ck50 := k5.cell 0 (u := .int .i64 (paraF zs0 x1)) rfl
  have ck51 := k5.cell 1 (u := .slice U4_1 (seqsV zs0 x1).length C4_1) rfl
  have ck140 := k14.cell 0 (u := .int .i64 (paraF zs0 x1)) rfl
  have ck141 := k14.cell 1 (u := .slice U13_1 (seqsV zs0 x1).length C13_1) rfl
  go_wp2_with fail
  clear ck30 ck31 ck50 ck51 ck140 ck141
  refine (heldSequencesResult_own _ _ _ 1 _ _ m4_1.sees g1 (by omega) (by omega) (by omega)).mono ?_
  rintro e w15 ⟨rfl, b15⟩
  have s15 := b15.size
  replace a0 := a0.below b15 (by omega)
  replace p2_1 := p2_1.below b15 (by omega)
  replace k3 := k3.below b15 k3.lt
  replace k5 := k5.below b15 k5.lt
  replace m4_1 := m4_1.below b15 (by omega)
  replace p13_1 := p13_1.below b15 (by omega)
  replace k14 := k14.below b15 k14.lt
  replace hb := below_on hb b15 (Nat.le_refl _)
  go_wp2
  go_ret
  exact ⟨rfl, hb⟩

theorem own : ownKnob Try.prog.godebug = none := by kernel_rfl
theorem laidOut : laidOutB Try.prog = true := by kernel_rfl

set_option maxRecDepth 100000 in
theorem lifted (os : Os) (started : os.Started) (H : Type) (enc : TypeId × Value → H) :
    ReturnsInHanded {} Try.checked os 4 .any (Rows.fnExactSequencesOfSpec.pre6 enc Try.prog Try.f4 Rows.fnExactSequencesOfRow.domain false) (Rows.fnExactSequencesOfSpec.post enc Try.prog Try.f4 false true false false) := by
  refine returnsInHanded_of_change_sized (C := Try.checked) own started (by kernel_rfl) Try.func4
    (ChangeSpec.witness6 (enc := enc) (C := Try.checked) false ⟨#[], #[.slice none 0 0, .int .i64 0], []⟩ 8 (by kernel_rfl) (by kernel_rfl) (by kernel_rfl) (by kernel_rfl)) ?_
  intro W base args ds gs before hval0 hW _ _ _
  have hval : ∀ (j : Nat) t v, Try.f4.params[j]? = some t → args[j]? = some v → Value.okWide Try.prog W .any base t v := hval0
  have hW' := hW
  obtain ⟨p, q, hA0, hV, rfl, _, _⟩ := hW
  have hA : DataW.TrodAll enc Try.prog W 0 (fun _ => true) true Try.f4.params.toList args.toList ds p := hA0
  rw [Try.params4] at hA hval
  obtain ⟨v0, vs0, d0, ds0, p0, q0, hargs, rfl, rfl, h0, r0⟩ := trodAll_cons hA
  obtain ⟨v1, vs1, d1, ds1, p1, q1, rfl, rfl, rfl, h1, r1⟩ := trodAll_cons r0
  obtain ⟨rfl, rfl, rfl⟩ := trodAll_nil r1
  obtain rfl : args = #[v0, v1] := by cases args; simp_all
  obtain ⟨rfl, rfl⟩ := trodVars_none hV
  clear hA0 hval0
  simp only [List.append_nil] at hW'
  obtain ⟨A0, zs0, c0, rfl, hr0, hw0⟩ := open_nums Try.underlying22 Try.underlying2 (by kernel_rfl) (hval 0 22 v0 rfl rfl) h0 (fun x hx => by simpa using hW'.lt x (by simp [hx]))
  obtain ⟨x1, rfl, rfl, rfl, hx1⟩ := open_int Try.underlying2 (hval 1 2 v1 rfl rfl) h1
  refine (walk A0 zs0 c0 x1 W hr0 hw0 hx1).mono fun e W' ⟨he, hb⟩ => ?_
  subst he
  exact ⟨_, rfl, law_post laidOut (by decide +kernel) rfl Try.underlying4 rfl rfl rfl rfl hW' hb⟩

theorem holds : Rows.FnExactSequencesOfSaid :=
  OpenClaim.holds_of_wide 4 Try.f4 rfl rfl rfl rfl rfl rfl rfl ⟨rfl, rfl, rfl, rfl, rfl⟩ rfl rfl rfl rfl rfl (by kernel_rfl) Try.func4 (by kernel_rfl)
    (of_decide_eq_true (by kernel_rfl)) (by unfold Func.isWrapper; first | (rw [if_pos (by decide +kernel)]; kernel_rfl) | (rw [if_neg (by decide +kernel)]; exact ⟨rfl, rfl⟩))
    (fun os started H enc _ => lifted os started H enc)
#print axioms holds
end Go.Proofs.Ythhbikilighemaa.fnExactSequencesOf
