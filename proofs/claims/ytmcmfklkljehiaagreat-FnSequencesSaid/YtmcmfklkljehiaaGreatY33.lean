/- The laws' helpers at sequences. -/
import Derived.Test.YtmcmfklkljehiaaGreatY32
import Derived.Test.YtmcmfklkljehiaaGreatY06
import Derived.Test.YtmcmfklkljehiaaGreatY16
import Derived.Deep.RegionHeld3
namespace Go.Proofs.YtmcmfklkljehiaaGreat
open Go.RowKit

theorem sumQ_cons (q : Sq) (r : List Sq) : sumQ (q :: r) = q.places.length + sumQ r := by simp [sumQ]
theorem sumQ_app (a b : List Sq) : sumQ (a ++ b) = sumQ a + sumQ b := by simp [sumQ]
theorem nthQ_zero (q : Sq) (r : List Sq) : nthQ (q :: r) 0 = q := rfl
theorem nthQ_succ (q : Sq) (r : List Sq) (j : Nat) : nthQ (q :: r) (j + 1) = nthQ r j := by simp [nthQ]
theorem sumQ_take_step (qs : List Sq) (j : Nat) (h : j < qs.length) : sumQ (qs.take (j + 1)) = sumQ (qs.take j) + (nthQ qs j).places.length := by
  rw [List.take_succ_eq_append_getElem h, sumQ_app]
  simp [sumQ, nthQ, List.getElem?_eq_getElem h]
theorem sumQ_take_le : ∀ (qs : List Sq) (j : Nat), sumQ (qs.take j) ≤ sumQ qs
  | [], j => by simp
  | q :: r, 0 => by simp [sumQ]
  | q :: r, j + 1 => by rw [List.take_succ_cons, sumQ_cons, sumQ_cons]; have := sumQ_take_le r j; omega
theorem sumQ_nth_le (qs : List Sq) (j : Nat) (h : j < qs.length) : sumQ (qs.take j) + (nthQ qs j).places.length ≤ sumQ qs := by
  rw [← sumQ_take_step qs j h]; exact sumQ_take_le _ _

/-- a cell that is no slice is written -/
theorem OwnC.put {w : World} {lo hi : Nat} {tt : TypeId} {size n g cap : Nat} {us : List Value} {cs : Nat → Option Cont} (h : OwnC w lo hi tt size (.slice (some ⟨g, 0, none⟩) n cap) n us cs) (k : Nat) (u : Value) (hc : cs k = none) (hu : u.ownBlock = none) :
    OwnC (w.setCell ⟨g, k, none⟩ u) lo hi tt size (.slice (some ⟨g, 0, none⟩) n cap) n (us.set k u) cs := by
  have st := h.row.stored k u
  have get : ∀ (j : Nat) (x : Value), (us.set k u)[j]? = some x → x = u ∨ us[j]? = some x := by
    intro j x hx
    by_cases e : j = k
    · subst e
      by_cases hk : j < us.length
      · rw [List.getElem?_set_self hk] at hx
        injection hx with hx
        exact .inl hx.symm
      · rw [List.getElem?_eq_none (by simp; omega)] at hx; cases hx
    · rw [List.getElem?_set_ne (by omega)] at hx
      exact .inr hx
  refine ⟨st.1, fun g' hg => (h.vlt g' hg).2.1, ?_, ?_, ?_, ?_⟩
  · intro j c hj
    obtain ⟨x, h1, h2⟩ := h.each j c hj
    have hjk : j ≠ k := fun e => by rw [e, hc] at hj; cases hj
    exact ⟨x, by rw [List.getElem?_set_ne (by omega)]; exact h1, ⟨h2.1.kept st.2 (h.off j x h1), h2.2⟩⟩
  · intro j x hx hj
    rcases get j x hx with rfl | h1
    · exact hu
    · exact h.bare j x h1 hj
  · intro i j x y hij hx hy
    rcases get i x hx with rfl | h1
    · exact .inl hu
    · rcases get j y hy with rfl | h2
      · by_cases hn : x.ownBlock = none
        · exact .inl hn
        · exact .inr (by rw [hu]; exact hn)
      · exact h.apart i j x y hij h1 h2
  · intro j x hx
    rcases get j x hx with rfl | h1
    · exact .inl hu
    · exact h.off j x h1
/-- one sequence marked anew -/
theorem OwnQ.mark {w w1 : World} {lo hi : Nat} {tt t : TypeId} {g n cap : Nat} {qs : List Sq} {us : List Value} (h : OwnQ w lo hi tt t (.slice (some ⟨g, 0, none⟩) n cap) qs us) (hn : n = qs.length) {j : Nat} (hj : j < qs.length) {u : Value} {ys : List Int} (hu : us[j * 4]? = some u)
    (hg : w.grownBy w1 u.ownBlock) (ho : Own w1 lo hi t .i64 u ys) (a b c : Int) :
    OwnQ (((w1.setCell ⟨g, j * 4 + 1, none⟩ (.int .i64 a)).setCell ⟨g, j * 4 + 2, none⟩ (.int .i64 b)).setCell ⟨g, j * 4 + 3, none⟩ (.int .i64 c)) lo hi tt t (.slice (some ⟨g, 0, none⟩) n cap) (qs.set j ⟨ys, a, b, c⟩)
      (((us.set (j * 4 + 1) (.int .i64 a)).set (j * 4 + 2) (.int .i64 b)).set (j * 4 + 3) (.int .i64 c)) := by
  subst hn
  have hl := h.len
  have r1 := h.rows.turn (contsQ_get t qs j hj) hu hg ho
  have nc : ∀ i, i % 4 ≠ 0 → (fun k => if k = j * 4 then some { (⟨t, .i64, (nthQ qs j).places⟩ : Cont) with zs := ys } else contsQ t qs k) i = none := by
    intro i hi4
    simp only
    rw [if_neg (by omega)]
    unfold contsQ
    rw [if_neg hi4]
  have r4 := ((r1.put (j * 4 + 1) (.int .i64 a) (nc _ (by omega)) rfl).put (j * 4 + 2) (.int .i64 b) (nc _ (by omega)) rfl).put (j * 4 + 3) (.int .i64 c) (nc _ (by omega)) rfl
  have e : (fun k => if k = j * 4 then some { (⟨t, .i64, (nthQ qs j).places⟩ : Cont) with zs := ys } else contsQ t qs k) = contsQ t (qs.set j ⟨ys, a, b, c⟩) := by
    funext k
    by_cases ek : k = j * 4
    · subst ek
      rw [if_pos rfl]
      unfold contsQ
      rw [if_pos (by omega), Nat.mul_div_cancel _ (by omega), List.getElem?_set_self hj]; rfl
    · rw [if_neg ek]
      unfold contsQ
      split
      · rw [List.getElem?_set_ne (by omega)]
      · rfl
  rw [e] at r4
  refine ⟨by rw [List.length_set]; exact r4, fun i hi' => ?_⟩
  rw [List.length_set] at hi'
  by_cases ei : i = j
  · subst ei
    have en : nthQ (qs.set i ⟨ys, a, b, c⟩) i = ⟨ys, a, b, c⟩ := by unfold nthQ; rw [List.getElem?_set_self hj]; rfl
    rw [en]
    refine ⟨?_, ?_, ?_⟩
    · rw [List.getElem?_set_ne (by omega), List.getElem?_set_ne (by omega), List.getElem?_set_self (by omega)]
    · rw [List.getElem?_set_ne (by omega), List.getElem?_set_self (by simp; omega)]
    · rw [List.getElem?_set_self (by simp; omega)]
  · have en : nthQ (qs.set j ⟨ys, a, b, c⟩) i = nthQ qs i := by unfold nthQ; rw [List.getElem?_set_ne (by omega)]
    rw [en]
    obtain ⟨s1, s2, s3⟩ := h.sc i hi'
    refine ⟨?_, ?_, ?_⟩
    · rw [List.getElem?_set_ne (by omega), List.getElem?_set_ne (by omega), List.getElem?_set_ne (by omega)]; exact s1
    · rw [List.getElem?_set_ne (by omega), List.getElem?_set_ne (by omega), List.getElem?_set_ne (by omega)]; exact s2
    · rw [List.getElem?_set_ne (by omega), List.getElem?_set_ne (by omega), List.getElem?_set_ne (by omega)]; exact s3
/-- where the j-th lies -/
theorem OwnQ.at_ {w : World} {lo hi : Nat} {tt t : TypeId} {v : Value} {qs : List Sq} {us : List Value} (h : OwnQ w lo hi tt t v qs us) (j : Nat) (hj : j < qs.length) : ∃ g c u, v = .slice (some ⟨g, 0, none⟩) qs.length c ∧ lo ≤ g ∧ g < hi ∧ us[j * 4]? = some u ∧ w.cell? ⟨g, j * 4, none⟩ = some u ∧ Own w lo hi t .i64 u (nthQ qs j).places ∧ (u.ownBlock = none ∨ u.ownBlock ≠ some g) ∧
    w.cell? ⟨g, j * 4 + 1, none⟩ = some (.int .i64 (nthQ qs j).level) ∧ w.cell? ⟨g, j * 4 + 2, none⟩ = some (.int .i64 (nthQ qs j).sos) ∧ w.cell? ⟨g, j * 4 + 3, none⟩ = some (.int .i64 (nthQ qs j).eos) ∧ (∀ i, w.frozen? ⟨g, i, none⟩ = false) := by
  obtain ⟨u, h1, h2⟩ := h.rows.each (j * 4) _ (contsQ_get t qs j hj)
  obtain ⟨s1, s2, s3⟩ := h.sc j hj
  have hrow := h.rows.row
  rcases hrow.2 with ⟨_, h0⟩ | ⟨g, cap, cur, hv, hb, hg, hn, hm, hs, htk⟩
  · omega
  · subst hv
    exact ⟨g, cap, u, rfl, hb, h.rows.top g rfl, h1, by rw [hrow.cellAt _ (by omega)]; exact h1, h2, h.rows.off _ u h1, by rw [hrow.cellAt _ (by omega)]; exact s1, by rw [hrow.cellAt _ (by omega)]; exact s2, by rw [hrow.cellAt _ (by omega)]; exact s3, fun i => hrow.frozenAt i⟩

/-! with the cells put away -/
def OwnQS (w : World) (lo hi : Nat) (tt t : TypeId) (v : Value) (qs : List Sq) : Prop := ∃ us, OwnQ w lo hi tt t v qs us
def SeesQS (w : World) (B : Nat) (v : Value) (qs : List Sq) : Prop := ∃ us, SeesQ w B v qs us
section
variable {w w' : World} {lo hi B : Nat} {tt t : TypeId} {v : Value} {qs : List Sq}
theorem OwnQS.form (h : OwnQS w lo hi tt t v qs) : ∃ A c, v = .slice A qs.length c := by obtain ⟨us, h⟩ := h; exact h.form
theorem OwnQS.nil (w : World) (lo hi : Nat) (tt t : TypeId) : OwnQS w lo hi tt t (.slice none 0 0) [] := ⟨[], OwnQ.nil _ _ _ _ _⟩
theorem OwnQS.below {C : Nat} (h : OwnQS w lo hi tt t v qs) (hb : Below C w w') (hB : hi ≤ C) : OwnQS w' lo hi tt t v qs := by obtain ⟨us, h⟩ := h; exact ⟨us, h.below hb hB⟩
theorem OwnQS.alloc (h : OwnQS w lo hi tt t v qs) (o : Obj) : OwnQS (w.alloc o) lo hi tt t v qs := by obtain ⟨us, h⟩ := h; exact ⟨us, h.alloc o⟩
theorem OwnQS.set (h : OwnQS w lo hi tt t v qs) (p : Addr) (u : Value) (hp : p.block < lo ∨ hi ≤ p.block) : OwnQS (w.setCell p u) lo hi tt t v qs := by obtain ⟨us, h⟩ := h; exact ⟨us, h.set p u hp⟩
theorem OwnQS.out {lo' hi' : Nat} (h : OwnQS w lo hi tt t v qs) (hb : Out lo' hi' w w') (hd : hi ≤ lo' ∨ hi' ≤ lo) : OwnQS w' lo hi tt t v qs := by obtain ⟨us, h⟩ := h; exact ⟨us, h.out hb hd⟩
theorem OwnQS.more {lo' hi' : Nat} (h : OwnQS w lo hi tt t v qs) (h1 : lo' ≤ lo) (h2 : hi ≤ hi') : OwnQS w lo' hi' tt t v qs := by obtain ⟨us, h⟩ := h; exact ⟨us, h.more h1 h2⟩
theorem OwnQS.sees (h : OwnQS w lo hi tt t v qs) : SeesQS w hi v qs := by obtain ⟨us, h⟩ := h; exact ⟨us, h.sees⟩
theorem SeesQS.below {C : Nat} (h : SeesQS w B v qs) (hb : Below C w w') (hB : B ≤ C) : SeesQS w' B v qs := by obtain ⟨us, h⟩ := h; exact ⟨us, h.below hb hB⟩
theorem SeesQS.out (h : SeesQS w B v qs) (hb : Out lo hi w w') (hB : B ≤ lo) (hw : B ≤ w.heap.size) : SeesQS w' B v qs := by obtain ⟨us, h⟩ := h; exact ⟨us, h.out hb hB hw⟩
theorem SeesQS.alloc (h : SeesQS w B v qs) (hB : B ≤ w.heap.size) (o : Obj) : SeesQS (w.alloc o) B v qs := by obtain ⟨us, h⟩ := h; exact ⟨us, h.alloc hB o⟩
theorem SeesQS.drew (h : SeesQS w B v qs) (n : Nat) : SeesQS (w.drewN n) B v qs := by obtain ⟨us, h⟩ := h; exact ⟨us, h.drew n⟩
theorem SeesQS.more {B' : Nat} (h : SeesQS w B v qs) (hB : B ≤ B') : SeesQS w B' v qs := by obtain ⟨us, h⟩ := h; exact ⟨us, h.more hB⟩
end
end Go.Proofs.YtmcmfklkljehiaaGreat

namespace Go.Proofs.YtmcmfklkljehiaaGreat
open Go.RowKit

def marksQ : Int → List Sq → List Sq
  | _, [] => []
  | k, q :: r => ⟨marks k q.places.length, k + q.places.length, k + q.places.length + 1, k + q.places.length + 2⟩ :: marksQ (k + q.places.length + 3) r
theorem marksQ_length : ∀ (k : Int) (qs : List Sq), (marksQ k qs).length = qs.length
  | _, [] => rfl
  | k, q :: r => by simp [marksQ, marksQ_length]
theorem marksQ_sum : ∀ (k : Int) (qs : List Sq), sumQ (marksQ k qs) = sumQ qs
  | _, [] => rfl
  | k, q :: r => by rw [marksQ, sumQ_cons, sumQ_cons, marksQ_sum, marks_length]
def markOf (k : Int) (n : Nat) : Sq := ⟨marks k n, k + n, k + n + 1, k + n + 2⟩
theorem marksQ_nth : ∀ (k : Int) (qs : List Sq) (j : Nat), j < qs.length → nthQ (marksQ k qs) j = markOf (k + ((sumQ (qs.take j) + 3 * j : Nat) : Int)) (nthQ qs j).places.length
  | _, [], _, h => by simp at h
  | k, q :: r, 0, _ => by simp [marksQ, nthQ_zero, sumQ, markOf]
  | k, q :: r, j + 1, h => by
    rw [marksQ, nthQ_succ, nthQ_succ, marksQ_nth (k + q.places.length + 3) r j (by simpa using h), List.take_succ_cons, sumQ_cons]
    congr 1
    omega
/-- the first j of a, then those of b -/
def mixQ (a b : List Sq) (j : Nat) : List Sq := a.take j ++ b.drop j
theorem mixQ_length (a b : List Sq) (j : Nat) (h : a.length = b.length) : (mixQ a b j).length = b.length := by simp [mixQ, h]; omega
theorem mixQ_nth (a b : List Sq) (j : Nat) (h : a.length = b.length) (hj : j < b.length) : nthQ (mixQ a b j) j = nthQ b j := by
  unfold nthQ mixQ
  rw [List.getElem?_append_right (by simp; omega), List.getElem?_drop, List.length_take, Nat.min_eq_left (by omega)]
  congr 2
  omega
theorem mixQ_step (a b : List Sq) (j : Nat) (h : a.length = b.length) (hj : j < b.length) : (mixQ a b j).set j (nthQ a j) = mixQ a b (j + 1) := by
  have e : a.take (j + 1) = a.take j ++ [nthQ a j] := by
    rw [List.take_succ_eq_append_getElem (by omega)]; simp [nthQ, List.getElem?_eq_getElem (show j < a.length by omega)]
  unfold mixQ
  rw [List.set_append_right _ _ (by simp; omega), List.length_take, Nat.min_eq_left (by omega), Nat.sub_self, List.drop_eq_getElem_cons hj, List.set_cons_zero, e]
  simp
theorem mixQ_zero (a b : List Sq) : mixQ a b 0 = b := by simp [mixQ]
theorem mixQ_all (a b : List Sq) (j : Nat) (h : a.length = b.length) (hj : b.length ≤ j) : mixQ a b j = a := by
  unfold mixQ; rw [List.drop_of_length_le hj, List.take_of_length_le (by omega), List.append_nil]

theorem outSet (w : World) {lo hi g : Nat} (h1 : lo ≤ g) (h2 : g < hi) (i : Nat) (u : Value) : Out lo hi w (w.setCell ⟨g, i, none⟩ u) :=
  ⟨rfl, rfl, rfl, by simp, fun k _ hn => heap_setCell_other w ⟨g, i, none⟩ k u (by intro e; subst e; exact hn ⟨h1, h2⟩)⟩
end Go.Proofs.YtmcmfklkljehiaaGreat
