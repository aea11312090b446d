/- Rows of placed parts: ten cells each, a sequence and its part; rows of parts whose lists are those of such rows. No program is named here. -/
import Derived.Test.YtcfnhjpmihngdaaGreatY21
import Derived.Test.YtcfnhjpmihngdaaGreatY34
import Derived.Test.YtcfnhjpmihngdaaGreatY06
import Derived.Test.YtcfnhjpmihngdaaGreatY16
import Derived.Deep.RegionHeld3
namespace Go.Proofs.YtcfnhjpmihngdaaGreat
open Go.RowKit

def putThree (p : Prt) (i : Nat) (ys : List Int) : Prt := if i = 0 then ⟨ys, p.F, p.N, p.L, p.S, p.E⟩ else if i = 1 then ⟨p.T, ys, p.N, p.L, p.S, p.E⟩ else ⟨p.T, p.F, ys, p.L, p.S, p.E⟩
theorem putThree_nums (p : Prt) (i : Nat) (ys : List Int) : (putThree p i ys).L = p.L ∧ (putThree p i ys).S = p.S ∧ (putThree p i ys).E = p.E := by
  unfold putThree
  split
  · exact ⟨rfl, rfl, rfl⟩
  · split <;> exact ⟨rfl, rfl, rfl⟩
theorem three_put (p : Prt) (i m : Nat) (ys : List Int) (hi : i < 3) (hm : m < 3) : three (putThree p i ys) m = if m = i then ys else three p m := by
  unfold three putThree
  match i, m with
  | 0, 0 => rfl
  | 0, 1 => rfl
  | 0, 2 => rfl
  | 1, 0 => rfl
  | 1, 1 => rfl
  | 1, 2 => rfl
  | 2, 0 => rfl
  | 2, 1 => rfl
  | 2, 2 => rfl
  | i + 3, m => omega
  | 0, m + 3 => omega
  | 1, m + 3 => omega
  | 2, m + 3 => omega
theorem nthT_set (qs : List Prt) (j i : Nat) (p : Prt) (hj : j < qs.length) : nthT (qs.set j p) i = if i = j then p else nthT qs i := by
  unfold nthT
  by_cases e : i = j
  · subst e; rw [if_pos rfl, List.getElem?_set_self hj]; rfl
  · rw [if_neg e, List.getElem?_set_ne (by omega)]
section
variable {w w1 : World} {lo hi : Nat} {tt t : TypeId} {v : Value} {qs : List Prt} {us : List Value}
/-- one list turned in its place -/
theorem OwnPs.turn (h : OwnPs w lo hi tt t v qs us) {j i : Nat} (hj : j < qs.length) (hi3 : i < 3) {u : Value} {ys : List Int} (hu : us[j * 6 + i]? = some u) (hg : w.grownBy w1 u.ownBlock) (ho : Own w1 lo hi t .i64 u ys) :
    OwnPs w1 lo hi tt t v (qs.set j (putThree (nthT qs j) i ys)) us := by
  have r1 := h.rows.turn (contsP_get t qs j i hj hi3) hu hg ho
  have e : (fun k => if k = j * 6 + i then some { (⟨t, .i64, three (nthT qs j) i⟩ : Cont) with zs := ys } else contsP t qs k) = contsP t (qs.set j (putThree (nthT qs j) i ys)) := by
    funext k
    by_cases ek : k = j * 6 + i
    · subst ek
      rw [if_pos rfl]
      unfold contsP
      rw [if_pos (by omega), show (j * 6 + i) / 6 = j by omega, show (j * 6 + i) % 6 = i by omega, List.getElem?_set_self hj]
      show _ = some (⟨t, .i64, three (putThree (nthT qs j) i ys) i⟩ : Cont)
      rw [three_put _ _ _ _ hi3 hi3, if_pos rfl]
    · rw [if_neg ek]
      unfold contsP
      by_cases h3 : k % 6 < 3
      · rw [if_pos h3, if_pos h3]
        by_cases ej : k / 6 = j
        · rw [ej, List.getElem?_set_self hj, nthT_get qs j hj]
          show some (⟨t, .i64, three (nthT qs j) (k % 6)⟩ : Cont) = some ⟨t, .i64, three (putThree (nthT qs j) i ys) (k % 6)⟩
          rw [three_put _ _ _ _ hi3 h3, if_neg (by omega)]
        · rw [List.getElem?_set_ne (by omega)]
      · rw [if_neg h3, if_neg h3]
  rw [e] at r1
  refine ⟨by rw [List.length_set]; exact r1, fun m hm => ?_⟩
  rw [List.length_set] at hm
  have s := h.sc m hm
  rw [nthT_set _ _ _ _ hj]
  split
  · rename_i em
    subst em
    obtain ⟨n1, n2, n3⟩ := putThree_nums (nthT qs m) i ys
    rw [n1, n2, n3]; exact s
  · exact s
/-- its numbers put -/
theorem OwnPs.put3 {g n cap : Nat} (h : OwnPs w lo hi tt t (.slice (some ⟨g, 0, none⟩) n cap) qs us) (hn : n = qs.length) {j : Nat} (hj : j < qs.length) (a b c : Int) :
    OwnPs (((w.setCell ⟨g, j * 6 + 3, none⟩ (.int .i64 a)).setCell ⟨g, j * 6 + 4, none⟩ (.int .i64 b)).setCell ⟨g, j * 6 + 5, none⟩ (.int .i64 c)) lo hi tt t (.slice (some ⟨g, 0, none⟩) n cap) (qs.set j ⟨(nthT qs j).T, (nthT qs j).F, (nthT qs j).N, a, b, c⟩)
      (((us.set (j * 6 + 3) (.int .i64 a)).set (j * 6 + 4) (.int .i64 b)).set (j * 6 + 5) (.int .i64 c)) := by
  subst hn
  have hl := h.len
  have nc : ∀ i, ¬ i % 6 < 3 → contsP t qs i = none := fun i hi6 => by unfold contsP; rw [if_neg hi6]
  have r4 := ((h.rows.put (j * 6 + 3) (.int .i64 a) (nc _ (by omega)) rfl).put (j * 6 + 4) (.int .i64 b) (nc _ (by omega)) rfl).put (j * 6 + 5) (.int .i64 c) (nc _ (by omega)) rfl
  have e : contsP t qs = contsP t (qs.set j ⟨(nthT qs j).T, (nthT qs j).F, (nthT qs j).N, a, b, c⟩) := by
    funext k
    unfold contsP
    split
    · by_cases ej : k / 6 = j
      · rw [ej, List.getElem?_set_self hj, nthT_get qs j hj]; rfl
      · rw [List.getElem?_set_ne (by omega)]
    · rfl
  rw [e] at r4
  refine ⟨by rw [List.length_set]; exact r4, fun i hi' => ?_⟩
  rw [List.length_set] at hi'
  rw [nthT_set _ _ _ _ hj]
  by_cases ei : i = j
  · subst ei
    rw [if_pos rfl]
    refine ⟨?_, ?_, ?_⟩
    · rw [List.getElem?_set_ne (by omega), List.getElem?_set_ne (by omega), List.getElem?_set_self (by omega)]
    · rw [List.getElem?_set_ne (by omega), List.getElem?_set_self (by simp; omega)]
    · rw [List.getElem?_set_self (by simp; omega)]
  · rw [if_neg ei]
    obtain ⟨s1, s2, s3⟩ := h.sc i hi'
    refine ⟨?_, ?_, ?_⟩
    · rw [List.getElem?_set_ne (by omega), List.getElem?_set_ne (by omega), List.getElem?_set_ne (by omega)]; exact s1
    · rw [List.getElem?_set_ne (by omega), List.getElem?_set_ne (by omega), List.getElem?_set_ne (by omega)]; exact s2
    · rw [List.getElem?_set_ne (by omega), List.getElem?_set_ne (by omega), List.getElem?_set_ne (by omega)]; exact s3
/-- where the j-th lies -/
theorem OwnPs.at_ (h : OwnPs w lo hi tt t v qs us) (j : Nat) (hj : j < qs.length) : ∃ g c u0 u1 u2, v = .slice (some ⟨g, 0, none⟩) qs.length c ∧ lo ≤ g ∧ g < hi ∧
    (us[j * 6 + 0]? = some u0 ∧ us[j * 6 + 1]? = some u1 ∧ us[j * 6 + 2]? = some u2) ∧
    (w.cell? ⟨g, j * 6, none⟩ = some u0 ∧ w.cell? ⟨g, j * 6 + 1, none⟩ = some u1 ∧ w.cell? ⟨g, j * 6 + 2, none⟩ = some u2) ∧
    (Own w lo hi t .i64 u0 (nthT qs j).T ∧ Own w lo hi t .i64 u1 (nthT qs j).F ∧ Own w lo hi t .i64 u2 (nthT qs j).N) ∧
    ((u0.ownBlock = none ∨ u0.ownBlock ≠ some g) ∧ (u1.ownBlock = none ∨ u1.ownBlock ≠ some g) ∧ (u2.ownBlock = none ∨ u2.ownBlock ≠ some g)) ∧
    (w.cell? ⟨g, j * 6 + 3, none⟩ = some (.int .i64 (nthT qs j).L) ∧ w.cell? ⟨g, j * 6 + 4, none⟩ = some (.int .i64 (nthT qs j).S) ∧ w.cell? ⟨g, j * 6 + 5, none⟩ = some (.int .i64 (nthT qs j).E)) ∧ (∀ i, w.frozen? ⟨g, i, none⟩ = false) := by
  obtain ⟨u0, h1, h2⟩ := h.rows.each (j * 6 + 0) _ (contsP_get t qs j 0 hj (by omega))
  obtain ⟨u1, g1, g2⟩ := h.rows.each (j * 6 + 1) _ (contsP_get t qs j 1 hj (by omega))
  obtain ⟨u2, k1, k2⟩ := h.rows.each (j * 6 + 2) _ (contsP_get t qs j 2 hj (by omega))
  obtain ⟨s1, s2, s3⟩ := h.sc j hj
  have hl := h.len
  have hrow := h.rows.row
  rcases hrow.2 with ⟨_, h0⟩ | ⟨g, cap, cur, hv, hb, hg, hn, hm, hs, htk⟩
  · omega
  · subst hv
    exact ⟨g, cap, u0, u1, u2, rfl, hb, h.rows.top g rfl, ⟨h1, g1, k1⟩, ⟨by rw [hrow.cellAt _ (by omega)]; exact h1, by rw [hrow.cellAt _ (by omega)]; exact g1, by rw [hrow.cellAt _ (by omega)]; exact k1⟩, ⟨h2, g2, k2⟩,
      ⟨h.rows.off _ u0 h1, h.rows.off _ u1 g1, h.rows.off _ u2 k1⟩, ⟨by rw [hrow.cellAt _ (by omega)]; exact s1, by rw [hrow.cellAt _ (by omega)]; exact s2, by rw [hrow.cellAt _ (by omega)]; exact s3⟩, fun i => hrow.frozenAt i⟩
end

/-! with the cells put away -/
def OwnPT (w : World) (lo hi : Nat) (tt t : TypeId) (v : Value) (qs : List Prt) : Prop := ∃ us, OwnPs w lo hi tt t v qs us
def SeesPT (w : World) (B : Nat) (v : Value) (qs : List Prt) : Prop := ∃ us, SeesPs w B v qs us
section
variable {w w' : World} {lo hi B : Nat} {tt t : TypeId} {v : Value} {qs : List Prt}
theorem OwnPT.form (h : OwnPT w lo hi tt t v qs) : ∃ A c, v = .slice A qs.length c := by obtain ⟨us, h⟩ := h; exact h.form
theorem OwnPT.nil (w : World) (lo hi : Nat) (tt t : TypeId) : OwnPT w lo hi tt t (.slice none 0 0) [] := ⟨[], OwnPs.nil _ _ _ _ _⟩
theorem OwnPT.below {C : Nat} (h : OwnPT w lo hi tt t v qs) (hb : Below C w w') (hB : hi ≤ C) : OwnPT w' lo hi tt t v qs := by obtain ⟨us, h⟩ := h; exact ⟨us, h.below hb hB⟩
theorem OwnPT.alloc (h : OwnPT w lo hi tt t v qs) (o : Obj) : OwnPT (w.alloc o) lo hi tt t v qs := by obtain ⟨us, h⟩ := h; exact ⟨us, h.alloc o⟩
theorem OwnPT.set (h : OwnPT w lo hi tt t v qs) (p : Addr) (u : Value) (hp : p.block < lo ∨ hi ≤ p.block) : OwnPT (w.setCell p u) lo hi tt t v qs := by obtain ⟨us, h⟩ := h; exact ⟨us, h.set p u hp⟩
theorem OwnPT.out {lo' hi' : Nat} (h : OwnPT w lo hi tt t v qs) (hb : Out lo' hi' w w') (hd : hi ≤ lo' ∨ hi' ≤ lo) : OwnPT w' lo hi tt t v qs := by obtain ⟨us, h⟩ := h; exact ⟨us, h.out hb hd⟩
theorem OwnPT.more {lo' hi' : Nat} (h : OwnPT w lo hi tt t v qs) (h1 : lo' ≤ lo) (h2 : hi ≤ hi') : OwnPT w lo' hi' tt t v qs := by obtain ⟨us, h⟩ := h; exact ⟨us, h.more h1 h2⟩
theorem OwnPT.sees (h : OwnPT w lo hi tt t v qs) : SeesPT w hi v qs := by obtain ⟨us, h⟩ := h; exact ⟨us, h.sees⟩
theorem SeesPT.below {C : Nat} (h : SeesPT w B v qs) (hb : Below C w w') (hB : B ≤ C) : SeesPT w' B v qs := by obtain ⟨us, h⟩ := h; exact ⟨us, h.below hb hB⟩
theorem SeesPT.alloc (h : SeesPT w B v qs) (hB : B ≤ w.heap.size) (o : Obj) : SeesPT (w.alloc o) B v qs := by obtain ⟨us, h⟩ := h; exact ⟨us, h.alloc hB o⟩
theorem SeesPT.drew (h : SeesPT w B v qs) (n : Nat) : SeesPT (w.drewN n) B v qs := by obtain ⟨us, h⟩ := h; exact ⟨us, h.drew n⟩
theorem SeesPT.more {B' : Nat} (h : SeesPT w B v qs) (hB : B ≤ B') : SeesPT w B' v qs := by obtain ⟨us, h⟩ := h; exact ⟨us, h.more hB⟩
end
end Go.Proofs.YtcfnhjpmihngdaaGreat

namespace Go.Proofs.YtcfnhjpmihngdaaGreat
open Go.RowKit

def sizeT (p : Prt) : Nat := p.T.length + p.F.length + p.N.length
def sumT (qs : List Prt) : Nat := (qs.map sizeT).sum
theorem sumT_cons (q : Prt) (r : List Prt) : sumT (q :: r) = sizeT q + sumT r := by simp [sumT]
theorem nthT_zero (q : Prt) (r : List Prt) : nthT (q :: r) 0 = q := rfl
theorem nthT_succ (q : Prt) (r : List Prt) (j : Nat) : nthT (q :: r) (j + 1) = nthT r j := by simp [nthT]
theorem sumT_take_step (qs : List Prt) (j : Nat) (h : j < qs.length) : sumT (qs.take (j + 1)) = sumT (qs.take j) + sizeT (nthT qs j) := by
  unfold sumT
  rw [List.take_succ_eq_append_getElem h, List.map_append, List.sum_append]
  simp [nthT, List.getElem?_eq_getElem h]
theorem sumT_take_le : ∀ (qs : List Prt) (j : Nat), sumT (qs.take j) ≤ sumT qs
  | [], j => by simp [sumT]
  | q :: r, 0 => by simp [sumT]
  | q :: r, j + 1 => by rw [List.take_succ_cons, sumT_cons, sumT_cons]; have := sumT_take_le r j; omega
theorem sumT_nth_le (qs : List Prt) (j : Nat) (h : j < qs.length) : sumT (qs.take j) + sizeT (nthT qs j) ≤ sumT qs := by
  rw [← sumT_take_step qs j h]; exact sumT_take_le qs (j + 1)
def markT (k : Int) (a b c : Nat) : Prt := ⟨marks k a, marks (k + a) b, marks (k + a + b) c, k + a + b + c, k + a + b + c + 1, k + a + b + c + 2⟩
def marksT : Int → List Prt → List Prt
  | _, [] => []
  | k, p :: r => markT k p.T.length p.F.length p.N.length :: marksT (k + (sizeT p + 3 : Nat)) r
theorem marksT_length : ∀ (k : Int) (qs : List Prt), (marksT k qs).length = qs.length
  | _, [] => rfl
  | k, q :: r => by simp [marksT, marksT_length]
theorem sizeT_mark (k : Int) (a b c : Nat) : sizeT (markT k a b c) = a + b + c := by simp [sizeT, markT, marks_length]
theorem marksT_sum : ∀ (k : Int) (qs : List Prt), sumT (marksT k qs) = sumT qs
  | _, [] => rfl
  | k, q :: r => by rw [marksT, sumT_cons, sumT_cons, marksT_sum, sizeT_mark]; rfl
theorem marksT_nth : ∀ (k : Int) (qs : List Prt) (j : Nat), j < qs.length → nthT (marksT k qs) j = markT (k + ((sumT (qs.take j) + 3 * j : Nat) : Int)) (nthT qs j).T.length (nthT qs j).F.length (nthT qs j).N.length
  | _, [], _, h => by simp at h
  | k, q :: r, 0, _ => by simp [marksT, nthT_zero, sumT]
  | k, q :: r, j + 1, h => by
    rw [marksT, nthT_succ, nthT_succ, marksT_nth (k + (sizeT q + 3 : Nat)) r j (by simpa using h), List.take_succ_cons, sumT_cons]
    congr 1
    omega
/-- the first j of a, then those of b -/
def mixT (a b : List Prt) (j : Nat) : List Prt := a.take j ++ b.drop j
theorem mixT_length (a b : List Prt) (j : Nat) (h : a.length = b.length) : (mixT a b j).length = b.length := by simp [mixT, h]; omega
theorem mixT_nth (a b : List Prt) (j : Nat) (h : a.length = b.length) (hj : j < b.length) : nthT (mixT a b j) j = nthT b j := by
  unfold nthT mixT
  rw [List.getElem?_append_right (by simp; omega), List.getElem?_drop, List.length_take, Nat.min_eq_left (by omega)]
  congr 2
  omega
theorem mixT_step (a b : List Prt) (j : Nat) (h : a.length = b.length) (hj : j < b.length) : (mixT a b j).set j (nthT a j) = mixT a b (j + 1) := by
  have e : a.take (j + 1) = a.take j ++ [nthT a j] := by
    rw [List.take_succ_eq_append_getElem (by omega)]; simp [nthT, List.getElem?_eq_getElem (show j < a.length by omega)]
  unfold mixT
  rw [List.set_append_right _ _ (by simp; omega), List.length_take, Nat.min_eq_left (by omega), Nat.sub_self, List.drop_eq_getElem_cons hj, List.set_cons_zero, e]
  simp
theorem mixT_zero (a b : List Prt) : mixT a b 0 = b := by simp [mixT]
theorem mixT_all (a b : List Prt) (j : Nat) (h : a.length = b.length) (hj : b.length ≤ j) : mixT a b j = a := by
  unfold mixT; rw [List.drop_of_length_le hj, List.take_of_length_le (by omega), List.append_nil]
theorem nthT_set_self (qs : List Prt) (j : Nat) (p : Prt) (hj : j < qs.length) : nthT (qs.set j p) j = p := by rw [nthT_set _ _ _ _ hj, if_pos rfl]

set_option maxRecDepth 100000 in
set_option maxHeartbeats 2000000 in
theorem eqPartS_same (v u : Value) (qs : List Prt) (w : World) (B B' : Nat) (h1 : SeesPT w B v qs) (h2 : SeesPT w B' u qs) (hB : B ≤ w.heap.size) (hB' : B' ≤ w.heap.size) (hl : qs.length + sumT qs < 300000001) :
    Calls Tryz.prog 17 #[v, u] w fun e w' => e = .returned (.bool true) ∧ Below w.heap.size w w' := by
  obtain ⟨us1, h1⟩ := h1
  obtain ⟨us2, h2⟩ := h2
  have H1 := Lib.hid h1
  have H2 := Lib.hid h2
  obtain ⟨A, c, rfl⟩ := h1.form
  obtain ⟨A', c', rfl⟩ := h2.form
  have TN := Lib.hid (sumT_nth_le qs)
  clear h1 h2
  go_enter Tryz.func17, Tryz.ntmps17
  go_wp2
  go_loopw [5] (fun i wr => ∃ k : Nat, k ≤ qs.length ∧ i = .int .i64 k ∧ Hid (Below w.heap.size w wr)) (fun i _ => qs.length - (intOf i).toNat)
  case atStart => exact ⟨0, by omega, rfl, Lib.hid (Below.refl _ _)⟩
  case round =>
    obtain ⟨k, hk, rfl, hbr⟩ := hrel
    have wsz := hbr.out.size
    by_cases hlt : k < qs.length
    · have H1r := Lib.hid (H1.out.below hbr.out hB)
      have H2r := Lib.hid (H2.out.below hbr.out hB')
      obtain ⟨b, off, cc, x0, x1, x2, e1, hb, ⟨hc0, hc1, hc2⟩, ⟨s0, s1, s2⟩, hc3, hc4, hc5⟩ := H1r.out.at_ k hlt
      obtain ⟨b', off', cc', y0, y1, y2, e2, hb', ⟨hd0, hd1, hd2⟩, ⟨r0, r1, r2⟩, hd3, hd4, hd5⟩ := H2r.out.at_ k hlt
      cases e1
      cases e2
      have tn := TN.out k hlt
      obtain ⟨p, hp⟩ : ∃ p, Hid (p = nthT qs k) := ⟨_, Lib.hid rfl⟩
      rw [← hp.out] at s0 s1 s2 r0 r1 r2 hc3 hc4 hc5 hd3 hd4 hd5 tn
      have tn' : p.T.length < 1000000000 ∧ p.F.length < 1000000000 ∧ p.N.length < 1000000000 := by unfold sizeT at tn; omega
      have q0 := s0.below (drew_below wr) (by omega)
      have q1 := s1.below (drew_below wr) (by omega)
      have q2 := s2.below (drew_below wr) (by omega)
      have t0 := r0.below (drew_below wr) (by omega)
      have t1 := r1.below (drew_below wr) (by omega)
      have t2 := r2.below (drew_below wr) (by omega)
      have CT := Lib.hid (eqPart_same p.L p.S p.E x0 y0 p.T x1 y1 p.F x2 y2 p.N wr.drew B B' q0 t0 tn'.1 q1 t1 tn'.2.1 q2 t2 tn'.2.2 (show B ≤ wr.heap.size by omega) (show B' ≤ wr.heap.size by omega))
      obtain ⟨A0, a0, rfl, _⟩ := s0
      obtain ⟨A1, a1, rfl, _⟩ := s1
      obtain ⟨A2, a2, rfl, _⟩ := s2
      obtain ⟨A0', a0', rfl, _⟩ := r0
      obtain ⟨A1', a1', rfl, _⟩ := r1
      obtain ⟨A2', a2', rfl, _⟩ := r2
      have hc1' : wr.cell? ⟨b, off + k * 6 + 1, none⟩ = _ := hc1
      have hc2' : wr.cell? ⟨b, off + k * 6 + 2, none⟩ = _ := hc2
      have hc3' : wr.cell? ⟨b, off + k * 6 + 3, none⟩ = _ := hc3
      have hc4' : wr.cell? ⟨b, off + k * 6 + 4, none⟩ = _ := hc4
      have hc5' : wr.cell? ⟨b, off + k * 6 + 5, none⟩ = _ := hc5
      have hd1' : wr.cell? ⟨b', off' + k * 6 + 1, none⟩ = _ := hd1
      have hd2' : wr.cell? ⟨b', off' + k * 6 + 2, none⟩ = _ := hd2
      have hd3' : wr.cell? ⟨b', off' + k * 6 + 3, none⟩ = _ := hd3
      have hd4' : wr.cell? ⟨b', off' + k * 6 + 4, none⟩ = _ := hd4
      have hd5' : wr.cell? ⟨b', off' + k * 6 + 5, none⟩ = _ := hd5
      clear q0 q1 q2 t0 t1 t2 hc1 hc2 hc3 hc4 hc5 hd1 hd2 hd3 hd4 hd5
      go_wp2
      go_region_with (go_at_call 40; refine CT.out.mono ?_; rintro e w5 ⟨rfl, b5⟩; have B5 := Lib.hid (hbr.out.trans ((show Below wr.heap.size wr w5 from ⟨b5.os, b5.tape, b5.output, b5.size, b5.block⟩).mono wsz)); clear b5)
      all_goals
        go_wp2
        go_roundw
        case rel => exact ⟨k + 1, by omega, by go_num, B5⟩
        case measure => first | omega | (simp [intOf]; omega)
    · go_wp2
      go_ret
      exact ⟨rfl, hbr.out⟩
theorem outSet9 (w : World) {lo hi g : Nat} (h1 : lo ≤ g) (h2 : g < hi) (i : Nat) (u : Value) : Out lo hi w (w.setCell ⟨g, i, none⟩ u) :=
  ⟨rfl, rfl, rfl, by simp, fun k _ hn => heap_setCell_other w ⟨g, i, none⟩ k u (by intro e; subst e; exact hn ⟨h1, h2⟩)⟩
/-- one list of a part marked: what holds behind it -/
theorem OwnPs.turned {w w1 : World} {lo hi : Nat} {tt t : TypeId} {g n c : Nat} {qs : List Prt} {us : List Value} (h : OwnPs w lo hi tt t (.slice (some ⟨g, 0, none⟩) n c) qs us) {j i : Nat} (hj : j < qs.length) (hi3 : i < 3) {u : Value} {ys : List Int} (hu : us[j * 6 + i]? = some u) (hg : w.grownBy w1 u.ownBlock) (ho : Own w1 lo hi t .i64 u ys) (hlt : Own w lo hi t .i64 u (three (nthT qs j) i)) :
    OwnPs w1 lo hi tt t (.slice (some ⟨g, 0, none⟩) n c) (qs.set j (putThree (nthT qs j) i ys)) us ∧ Out lo hi w w1 :=
  ⟨h.turn hj hi3 hu hg ho, Out.of_grown hg hlt.lt⟩
set_option maxRecDepth 100000 in
set_option maxHeartbeats 4000000 in
theorem markPartS_own (v : Value) (qs : List Prt) (k : Int) (w : World) (lo hi : Nat) (h : OwnPT w lo hi 39 2 v qs) (hl : qs.length + sumT qs < 300000001) (hk0 : 0 ≤ k) (hk1 : k < 1000000000) :
    Calls Tryz.prog 18 #[v, .int .i64 k] w fun e w' => (e = .returned (.int .i64 (k + ((sumT qs + 3 * qs.length : Nat) : Int))) ∧ OwnPT w' lo hi 39 2 v (marksT k qs)) ∧ Out lo hi w w' := by
  obtain ⟨us, h⟩ := h
  have HO := Lib.hid h
  obtain ⟨A, c, rfl⟩ := h.form
  clear h
  have ML := Lib.hid (marksT_length k qs)
  go_enter Tryz.func18, Tryz.ntmps18
  go_wp2
  go_loopw [1, 5] (fun kk i wr => ∃ (j : Nat) (us : List Value), j ≤ qs.length ∧ i = .int .i64 j ∧ kk = .int .i64 (k + ((sumT (qs.take j) + 3 * j : Nat) : Int)) ∧ Hid (OwnPs wr lo hi 39 2 (.slice A qs.length c) (mixT (marksT k qs) qs j) us) ∧ Hid (Out lo hi w wr)) (fun _ i _ => qs.length - (intOf i).toNat)
  case atStart => exact ⟨0, us, by omega, rfl, by simp [sumT], by rw [mixT_zero]; exact HO, Lib.hid (Out.refl _ _ _)⟩
  case round =>
    obtain ⟨j, us, hj, rfl, rfl, ho, hb⟩ := hrel
    have tl := sumT_take_le qs j
    by_cases hlt : j < qs.length
    · have mlt : j < (mixT (marksT k qs) qs j).length := by rw [mixT_length _ _ _ ML.out]; exact hlt
      obtain ⟨g, cc, u0, u1, u2, e1, hg1, hg2, ⟨hu0, hu1, hu2⟩, ⟨hc0, hc1, hc2⟩, ⟨ho0, ho1, ho2⟩, ⟨hn0, hn1, hn2⟩, _, hfz⟩ := ho.out.at_ j mlt
      have NX := Lib.hid (mixT_nth (marksT k qs) qs j ML.out hlt)
      rw [NX.out] at ho0 ho1 ho2
      injection e1 with e1 e1b e1c
      clear e1b e1c hc1 hc2
      subst e1
      have ST := Lib.hid (sumT_take_step qs j hlt)
      have tn := sumT_nth_le qs j hlt
      have MN := Lib.hid (marksT_nth k qs j hlt)
      have MST := Lib.hid (mixT_step (marksT k qs) qs j ML.out hlt)
      obtain ⟨Q, hQ⟩ : ∃ Q, Hid (Q = mixT (marksT k qs) qs j) := ⟨_, Lib.hid rfl⟩
      rw [← hQ.out] at mlt NX MST ho
      have QL := Lib.hid (show Q.length = qs.length by rw [hQ.out]; exact mixT_length _ _ _ ML.out)
      obtain ⟨t0, ht0⟩ : ∃ t0, Hid (t0 = sumT (qs.take j)) := ⟨_, Lib.hid rfl⟩
      rw [← ht0.out] at tl tn ST MN ⊢
      obtain ⟨p, hp⟩ : ∃ p, Hid (p = nthT qs j) := ⟨_, Lib.hid rfl⟩
      rw [← hp.out] at ho0 ho1 ho2 tn ST MN NX
      obtain ⟨A0, c0, rfl⟩ := ho0.form
      obtain ⟨A1, c1, rfl⟩ := ho1.form
      obtain ⟨A2, c2, rfl⟩ := ho2.form
      have MLT := Lib.hid mlt
      have tn' : p.T.length < 1000000000 ∧ p.F.length < 1000000000 ∧ p.N.length < 1000000000 := by unfold sizeT at tn; omega
      have SZ := Lib.hid (show sizeT p = p.T.length + p.F.length + p.N.length from rfl)
      have tn2 : t0 + (p.T.length + p.F.length + p.N.length) ≤ sumT qs := tn
      have Lb1 : j * 6 + 1 < qs.length * 6 := by omega
      have Lb2 : j * 6 + 2 < qs.length * 6 := by omega
      have Lb3 : j * 6 + 3 < qs.length * 6 := by omega
      have Lb4 : j * 6 + 4 < qs.length * 6 := by omega
      have Lb5 : j * 6 + 5 < qs.length * 6 := by omega
      obtain ⟨kk, hkk⟩ : ∃ kk, Hid (kk = k + ((t0 + 3 * j : Nat) : Int)) := ⟨_, Lib.hid rfl⟩
      have kk0 : 0 ≤ kk ∧ kk < 3000000000 := by have := hkk.out; omega
      rw [← hkk.out] at MN ⊢
      have U0 := Lib.hid hu0
      have U1 := Lib.hid hu1
      have U2 := Lib.hid hu2
      have O0 := Lib.hid ho0
      have hO := Lib.hid (ho.out)
      clear hu0 hu1 hu2 mlt hfz hn0 hn1 hn2 tn ho ho0 ho1 ho2
      have CT0 := Lib.hid (markInt64S_own (.slice A0 p.T.length c0) p.T kk wr lo hi O0.out (by omega) (by omega) (by omega))
      have tok0 : True := trivial
      have tok1 : True := trivial
      have tok2 : True := trivial
      go_wp2_with (first
        | (go_at_call 9; have _t := tok0; clear tok0
           refine CT0.out.mono ?_
           rintro e w1 ⟨⟨rfl, p1⟩, g1⟩
           have T1 := hO.out.turned (i := 0) MLT.out (by omega) U0.out g1 p1 (by rw [NX.out]; exact O0.out)
           have P1 := Lib.hid T1.1
           have G1 := Lib.hid T1.2
           have r1 : w1.ownsRow lo 39 6 (.slice (some ⟨g, 0, none⟩) qs.length c) qs.length us := (by have q := P1.out.rows.row; rw [List.length_set, QL.out] at q; exact q)
           have x1 : w1.cell? ⟨g, j * 6 + 1, none⟩ = some (.slice A1 p.F.length c1) := (r1.cellAt (j * 6 + 1) Lb1).trans U1.out
           clear p1 g1 T1 r1 hc0)
        | (go_at_call 9; have _t := tok1; clear tok1
           refine (markInt64S_own (.slice A1 p.F.length c1) p.F _ w1 lo hi (by
             obtain ⟨_, _, _, _, _, _, _, _, ⟨_, h1, _⟩, _, ⟨_, o1, _⟩, _⟩ := P1.out.at_ j (by rw [List.length_set]; exact MLT.out)
             cases (h1.symm.trans U1.out)
             rw [nthT_set_self _ _ _ MLT.out, NX.out] at o1
             exact o1) (by omega) (by omega) (by omega)).mono ?_
           rintro e w2 ⟨⟨rfl, p1⟩, g1⟩
           have T1 := P1.out.turned (i := 1) (by rw [List.length_set]; exact MLT.out) (by omega) U1.out g1 p1 (by
             obtain ⟨_, _, _, _, _, _, _, _, ⟨_, h1, _⟩, _, ⟨_, o1, _⟩, _⟩ := P1.out.at_ j (by rw [List.length_set]; exact MLT.out)
             cases (h1.symm.trans U1.out)
             exact o1)
           have P2 := Lib.hid T1.1
           have G2 := Lib.hid (G1.out.trans T1.2)
           have r1 : w2.ownsRow lo 39 6 (.slice (some ⟨g, 0, none⟩) qs.length c) qs.length us := (by have q := P2.out.rows.row; rw [List.length_set, List.length_set, QL.out] at q; exact q)
           have x2 : w2.cell? ⟨g, j * 6 + 2, none⟩ = some (.slice A2 p.N.length c2) := (r1.cellAt (j * 6 + 2) Lb2).trans U2.out
           clear p1 g1 T1 r1 x1)
        | (go_at_call 9; have _t := tok2; clear tok2
           refine (markInt64S_own (.slice A2 p.N.length c2) p.N _ w2 lo hi (by
             obtain ⟨_, _, _, _, _, _, _, _, ⟨_, _, h1⟩, _, ⟨_, _, o1⟩, _⟩ := P2.out.at_ j (by rw [List.length_set, List.length_set]; exact MLT.out)
             cases (h1.symm.trans U2.out)
             rw [nthT_set_self _ _ _ (by rw [List.length_set]; exact MLT.out), nthT_set_self _ _ _ MLT.out, NX.out] at o1
             exact o1) (by omega) (by omega) (by omega)).mono ?_
           rintro e w3 ⟨⟨rfl, p1⟩, g1⟩
           have T1 := P2.out.turned (i := 2) (by rw [List.length_set, List.length_set]; exact MLT.out) (by omega) U2.out g1 p1 (by
             obtain ⟨_, _, _, _, _, _, _, _, ⟨_, _, h1⟩, _, ⟨_, _, o1⟩, _⟩ := P2.out.at_ j (by rw [List.length_set, List.length_set]; exact MLT.out)
             cases (h1.symm.trans U2.out)
             exact o1)
           have P3 := Lib.hid T1.1
           have G3 := Lib.hid (G2.out.trans T1.2)
           have r1 : w3.ownsRow lo 39 6 (.slice (some ⟨g, 0, none⟩) qs.length c) qs.length us := (by have q := P3.out.rows.row; rw [List.length_set, List.length_set, List.length_set, QL.out] at q; exact q)
           obtain ⟨z1, z2, z3, S1, S2, S3⟩ : ∃ z1 z2 z3 : Int, us[j * 6 + 3]? = some (.int .i64 z1) ∧ us[j * 6 + 4]? = some (.int .i64 z2) ∧ us[j * 6 + 5]? = some (.int .i64 z3) := (by
             obtain ⟨s1, s2, s3⟩ := P3.out.sc j (by rw [List.length_set, List.length_set, List.length_set]; exact MLT.out)
             exact ⟨_, _, _, s1, s2, s3⟩)
           have x3 := (r1.cellAt (j * 6 + 3) Lb3).trans S1
           have x4 := (r1.cellAt (j * 6 + 4) Lb4).trans S2
           have x5 := (r1.cellAt (j * 6 + 5) Lb5).trans S3
           have y3 := r1.frozenAt (j * 6 + 3)
           have y4 := r1.frozenAt (j * 6 + 4)
           have y5 := r1.frozenAt (j * 6 + 5)
           clear p1 g1 T1 r1 x2 S1 S2 S3))
      have HM := Lib.hid (P3.out.put3 (n := qs.length) (by rw [List.length_set, List.length_set, List.length_set, QL.out]) (j := j) (by rw [List.length_set, List.length_set, List.length_set]; exact MLT.out) (kk + p.T.length + p.F.length + p.N.length) (kk + p.T.length + p.F.length + p.N.length + 1) (kk + p.T.length + p.F.length + p.N.length + 2))
      have OB := Lib.hid (((hb.out.trans G3.out).trans (outSet9 w3 hg1 hg2 (j * 6 + 3) (.int .i64 (kk + p.T.length + p.F.length + p.N.length)))).trans ((outSet9 _ hg1 hg2 (j * 6 + 4) (.int .i64 (kk + p.T.length + p.F.length + p.N.length + 1))).trans (outSet9 _ hg1 hg2 (j * 6 + 5) (.int .i64 (kk + p.T.length + p.F.length + p.N.length + 2)))))
      have QF := Lib.hid (show OwnPs _ lo hi 39 2 (.slice (some ⟨g, 0, none⟩) qs.length c) (mixT (marksT k qs) qs (j + 1)) _ from by
        have hm := HM.out
        have l1 : j < (Q.set j (putThree (nthT Q j) 0 (marks kk p.T.length))).length := by rw [List.length_set]; exact MLT.out
        have l2 : j < ((Q.set j (putThree (nthT Q j) 0 (marks kk p.T.length))).set j (putThree (nthT (Q.set j (putThree (nthT Q j) 0 (marks kk p.T.length))) j) 1 (marks (kk + p.T.length) p.F.length))).length := by rw [List.length_set]; exact l1
        rw [nthT_set_self _ _ _ l2, nthT_set_self _ _ _ l1, nthT_set_self _ _ _ MLT.out, List.set_set, List.set_set, List.set_set] at hm
        rw [← MST.out, MN.out]
        exact hm)
      have e2 : kk + (p.T.length : Int) + p.F.length + p.N.length + 2 = kk + (p.T.length : Int) + p.F.length + p.N.length + 1 + 1 := by omega
      rw [e2] at QF OB
      go_roundw
      case rel => exact ⟨j + 1, _, by omega, by go_num, by rw [ST.out, SZ.out]; have := hkk.out; congr 1; omega, QF, OB⟩
      case measure => first | omega | (simp [intOf]; omega)
    · have e : qs.take j = qs := List.take_of_length_le (by omega)
      have ej : j = qs.length := by omega
      rw [e] at *
      subst ej
      have P := ho.out
      rw [mixT_all _ _ _ ML.out (by omega)] at P
      have HP := Lib.hid P
      clear P ho
      go_wp2
      go_ret
      exact ⟨⟨rfl, us, HP.out⟩, hb.out⟩
set_option maxRecDepth 100000 in
set_option maxHeartbeats 4000000 in
theorem heldPartS_own (v : Value) (qs : List Prt) (k : Int) (w : World) (B : Nat) (h : SeesPT w B v (marksT k qs)) (hl : qs.length + sumT qs < 300000001) (hk0 : 0 ≤ k) (hk1 : k < 1000000000) :
    Calls Tryz.prog 19 #[v, .int .i64 k] w fun e w' => e = .returned (.int .i64 (k + ((sumT qs + 3 * qs.length : Nat) : Int))) ∧ w = w' := by
  obtain ⟨us, h⟩ := h
  have HO := Lib.hid h
  obtain ⟨A, c, rfl⟩ := h.form
  have ML := Lib.hid (marksT_length k qs)
  rw [ML.out]
  clear h
  go_enter Tryz.func19, Tryz.ntmps19
  go_wp2
  go_loop [1, 5] (fun kk i => ∃ j : Nat, j ≤ qs.length ∧ i = .int .i64 j ∧ kk = .int .i64 (k + ((sumT (qs.take j) + 3 * j : Nat) : Int))) (fun _ i => qs.length - (intOf i).toNat)
  case atStart => exact ⟨0, by omega, rfl, by simp [sumT]⟩
  case round =>
    obtain ⟨j, hj, rfl, rfl⟩ := hrel
    have tl := sumT_take_le qs j
    by_cases hlt : j < qs.length
    · obtain ⟨b, off, cc, u0, u1, u2, e1, hb, ⟨hc0, hc1, hc2⟩, ⟨s0, s1, s2⟩, hc3, hc4, hc5⟩ := HO.out.at_ j (by rw [ML.out]; exact hlt)
      rw [marksT_nth k qs j hlt] at s0 s1 s2 hc3 hc4 hc5
      injection e1 with e1 e1b e1c
      clear e1b e1c
      subst e1
      have ST := Lib.hid (sumT_take_step qs j hlt)
      have tn := sumT_nth_le qs j hlt
      obtain ⟨t0, ht0⟩ : ∃ t0, Hid (t0 = sumT (qs.take j)) := ⟨_, Lib.hid rfl⟩
      rw [← ht0.out] at tl tn ST s0 s1 s2 hc3 hc4 hc5 ⊢
      unfold sizeT at tn ST
      obtain ⟨n0, hn0⟩ : ∃ n, Hid (n = (nthT qs j).T.length) := ⟨_, Lib.hid rfl⟩
      obtain ⟨n1, hn1⟩ : ∃ n, Hid (n = (nthT qs j).F.length) := ⟨_, Lib.hid rfl⟩
      obtain ⟨n2, hn2⟩ : ∃ n, Hid (n = (nthT qs j).N.length) := ⟨_, Lib.hid rfl⟩
      rw [← hn0.out, ← hn1.out, ← hn2.out] at s0 s1 s2 hc3 hc4 hc5 tn ST
      obtain ⟨kk, hkk⟩ : ∃ kk, Hid (kk = k + ((t0 + 3 * j : Nat) : Int)) := ⟨_, Lib.hid rfl⟩
      have kk0 : 0 ≤ kk ∧ kk < 3000000000 := by have := hkk.out; omega
      rw [← hkk.out] at s0 s1 s2 hc3 hc4 hc5 ⊢
      have g1 : w.cell? ⟨b, off + j * 6 + 1, none⟩ = some u1 := hc1
      have g2 : w.cell? ⟨b, off + j * 6 + 2, none⟩ = some u2 := hc2
      have g3 : w.cell? ⟨b, off + j * 6 + 3, none⟩ = some (.int .i64 (kk + n0 + n1 + n2)) := hc3
      have g4 : w.cell? ⟨b, off + j * 6 + 4, none⟩ = some (.int .i64 (kk + n0 + n1 + n2 + 1)) := hc4
      have e2 : kk + (n0 : Int) + n1 + n2 + 1 + 1 = kk + (n0 : Int) + n1 + n2 + 2 := by omega
      have g5 : w.cell? ⟨b, off + j * 6 + 5, none⟩ = some (.int .i64 (kk + n0 + n1 + n2 + 1 + 1)) := by
        rw [e2]; exact hc5
      clear e2
      have S0 := Lib.hid (show Sees w B .i64 u0 (marks kk n0) from s0)
      have S1 := Lib.hid (show Sees w B .i64 u1 (marks (kk + n0) n1) from s1)
      have S2 := Lib.hid (show Sees w B .i64 u2 (marks (kk + n0 + n1) n2) from s2)
      obtain ⟨A0, c0, rfl, _⟩ := s0
      obtain ⟨A1, c1, rfl, _⟩ := s1
      obtain ⟨A2, c2, rfl, _⟩ := s2
      have q3 : (kk + (n0 : Int) + n1 + n2 != kk + (n0 : Int) + n1 + n2) = false := by simp
      have q4 : (kk + (n0 : Int) + n1 + n2 + 1 != kk + (n0 : Int) + n1 + n2 + 1) = false := by simp
      have q5 : (kk + (n0 : Int) + n1 + n2 + 1 + 1 != kk + (n0 : Int) + n1 + n2 + 1 + 1) = false := by simp
      have h0 : ¬ (kk + (n0 : Int) < 0) := by omega
      have h1 : ¬ (kk + (n0 : Int) + n1 < 0) := by omega
      have h2 : ¬ (kk + (n0 : Int) + n1 + n2 < 0) := by omega
      have nb : n0 < 1000000000 ∧ n1 < 1000000000 ∧ n2 < 1000000000 := by omega
      clear hc1 hc2 hc3 hc4 hc5
      have CT0 := Lib.hid (heldInt64S_own _ n0 kk w B S0.out nb.1 (by omega) (by omega))
      have CT1 := Lib.hid (heldInt64S_own _ n1 (kk + n0) w B S1.out nb.2.1 (by omega) (by omega))
      have CT2 := Lib.hid (heldInt64S_own _ n2 (kk + n0 + n1) w B S2.out nb.2.2 (by omega) (by omega))
      have tok0 : True := trivial
      have tok1 : True := trivial
      have tok2 : True := trivial
      go_wp2_with (first
        | (go_at_call 41; have _t := tok0; clear tok0; refine CT0.out.mono ?_; rintro e w1 ⟨rfl, rfl⟩)
        | (go_at_call 41; have _t := tok1; clear tok1; refine CT1.out.mono ?_; rintro e w1 ⟨rfl, rfl⟩)
        | (go_at_call 41; have _t := tok2; clear tok2; refine CT2.out.mono ?_; rintro e w1 ⟨rfl, rfl⟩))
      go_round
      case rel => exact ⟨j + 1, by omega, by go_num, by rw [ST.out]; have := hkk.out; congr 1; omega⟩
      case measure => first | omega | (simp [intOf]; omega)
    · have e : qs.take j = qs := List.take_of_length_le (by omega)
      have ej : j = qs.length := by omega
      rw [e] at *
      subst ej
      go_wp2
      go_ret
      exact ⟨rfl, rfl⟩
set_option maxRecDepth 100000 in
set_option maxHeartbeats 400000 in
theorem eqPartsResult_same (x0 : Int) (w : World) (v1 u1 : Value) (zs1 : List Prt) (B B' : Nat) (h1 : SeesPT w B v1 zs1) (g1 : SeesPT w B' u1 zs1) (l1 : zs1.length + sumT zs1 < 300000001) (hB : B ≤ w.heap.size) (hB' : B' ≤ w.heap.size) :
    Calls Tryz.prog 7 #[.agg #[.int .i64 x0, v1], .agg #[.int .i64 x0, u1]] w fun e w' => e = .returned (.bool true) ∧ Below w.heap.size w w' := by
  have k0 : (x0 != x0) = false := by simp
  have b0 := ((Below.refl w.heap.size w).alloc (Nat.le_refl _) (.cells #[.int .i64 x0, v1] 25)).alloc (by simp) (.cells #[.int .i64 x0, u1] 25)
  go_enter Tryz.func7, Tryz.ntmps7
  go_wp2_with fail
  refine (eqPartS_same _ _ zs1 _ B B' (h1.below b0 hB) (g1.below b0 hB') (by simp; omega) (by simp; omega) l1).mono ?_
  rintro e w1 ⟨rfl, b1⟩
  have b2 := below_on b0 b1 (Nat.le_refl _)
  go_wp2
  go_ret
  exact ⟨rfl, b2⟩
set_option maxRecDepth 100000 in
set_option maxHeartbeats 400000 in
theorem markPartsResult_own (x0 : Int) (v1 : Value) (zs1 : List Prt) (k : Int) (w : World) (lo hi : Nat) (h1 : OwnPT w lo hi 39 2 v1 zs1) (l1 : zs1.length + sumT zs1 < 300000001) (hk0 : 0 ≤ k) (hk1 : k < 1000000000) (hw : hi ≤ w.heap.size) :
    Calls Tryz.prog 10 #[.agg #[.int .i64 x0, v1], .int .i64 k] w fun e w' => (e = .returned (.int .i64 (k + ((sumT zs1 + 3 * zs1.length : Nat) : Int))) ∧ OwnPT w' lo hi 39 2 v1 (marksT (k) zs1)) ∧ Out lo hi w w' := by
  have b0 := (Below.refl w.heap.size w).alloc (Nat.le_refl _) (.cells #[.int .i64 x0, v1] 25)
  have o1 := h1.below b0 hw
  have q0 : Out lo hi w _ := Out.of_below b0
  go_enter Tryz.func10, Tryz.ntmps10
  go_wp2_with fail
  refine (markPartS_own v1 zs1 _ _ lo hi o1 l1 (by omega) (by omega)).mono ?_
  rintro e w1 ⟨⟨rfl, p1⟩, g1⟩
  have q1 := q0.trans g1
  go_wp2
  go_ret
  exact ⟨⟨rfl, p1⟩, q1⟩
set_option maxRecDepth 100000 in
set_option maxHeartbeats 400000 in
theorem heldPartsResult_own (x0 : Int) (v1 : Value) (n1 : List Prt) (k : Int) (w : World) (B : Nat) (h1 : SeesPT w B v1 (marksT (k) n1)) (l1 : n1.length + sumT n1 < 300000001) (hk0 : 0 ≤ k) (hk1 : k < 1000000000) (hB : B ≤ w.heap.size) :
    Calls Tryz.prog 11 #[.agg #[.int .i64 x0, v1], .int .i64 k] w fun e w' => e = .returned (.int .i64 (k + ((sumT n1 + 3 * n1.length : Nat) : Int))) ∧ Below w.heap.size w w' := by
  have b0 := (Below.refl w.heap.size w).alloc (Nat.le_refl _) (.cells #[.int .i64 x0, v1] 25)
  go_enter Tryz.func11, Tryz.ntmps11
  go_wp2_with fail
  refine (heldPartS_own v1 n1 _ _ B (h1.below b0 hB) l1 (by omega) (by omega)).mono ?_
  rintro e w1 ⟨rfl, rfl⟩
  have hnn : ¬ (k + ((sumT n1 + 3 * n1.length : Nat) : Int) < 0) := by omega
  go_wp2
  go_ret
  exact ⟨rfl, b0⟩
end Go.Proofs.YtcfnhjpmihngdaaGreat

namespace Go.Proofs.YtcfnhjpmihngdaaGreat
open Go.RowKit

abbrev Pld := Sq × Prt
def nthD (ds : List Pld) (k : Nat) : Pld := ds[k]?.getD (⟨[], 0, 0, 0⟩, ⟨[], [], [], 0, 0, 0⟩)
theorem nthD_get (ds : List Pld) (k : Nat) (h : k < ds.length) : ds[k]? = some (nthD ds k) := by simp [nthD, List.getElem?_eq_getElem h]
def listD (d : Pld) (i : Nat) : List Int := if i = 0 then d.1.places else three d.2 (i - 4)
def isL (i : Nat) : Bool := i == 0 || (4 ≤ i && i < 7)
def contsD (t : TypeId) (ds : List Pld) : Nat → Option Cont := fun k => if isL (k % 10) then ds[k / 10]?.map fun d => ⟨t, .i64, listD d (k % 10)⟩ else none
theorem isL_lt {i : Nat} (h : isL i = true) : i < 10 := by simp [isL] at h; omega
theorem contsD_get (t : TypeId) (ds : List Pld) (k i : Nat) (h : k < ds.length) (hi : isL i = true) : contsD t ds (k * 10 + i) = some ⟨t, .i64, listD (nthD ds k) i⟩ := by
  have := isL_lt hi
  unfold contsD
  rw [show (k * 10 + i) % 10 = i by omega, show (k * 10 + i) / 10 = k by omega, if_pos hi, nthD_get ds k h]; rfl
theorem contsD_some (t : TypeId) (ds : List Pld) (k : Nat) (c : Cont) (h : contsD t ds k = some c) : ∃ j i, j < ds.length ∧ isL i = true ∧ k = j * 10 + i ∧ c = ⟨t, .i64, listD (nthD ds j) i⟩ := by
  unfold contsD at h
  split at h
  · rename_i hi
    by_cases hj : k / 10 < ds.length
    · rw [nthD_get ds _ hj] at h
      injection h with h
      exact ⟨k / 10, k % 10, hj, hi, by omega, h.symm⟩
    · rw [List.getElem?_eq_none (by omega)] at h; cases h
  · cases h
theorem contsD_app (t : TypeId) (ds : List Pld) (d : Pld) : (fun k => if k < ds.length * 10 then contsD t ds k else contsD t [d] (k - ds.length * 10)) = contsD t (ds ++ [d]) := by
  funext k
  by_cases hk : k < ds.length * 10
  · rw [if_pos hk]
    unfold contsD
    rw [List.getElem?_append_left (by omega)]
  · rw [if_neg hk]
    unfold contsD
    rw [List.getElem?_append_right (by omega), show (k - ds.length * 10) % 10 = k % 10 by omega, show (k - ds.length * 10) / 10 = k / 10 - ds.length by omega]
def numsD (d : Pld) : List Int := [d.1.level, d.1.sos, d.1.eos, d.2.L, d.2.S, d.2.E]
/-- the numbers in the cells -/
def ScalD (us : List Value) (ds : List Pld) : Prop := ∀ j, j < ds.length →
  (us[j * 10 + 1]? = some (.int .i64 (nthD ds j).1.level) ∧ us[j * 10 + 2]? = some (.int .i64 (nthD ds j).1.sos) ∧ us[j * 10 + 3]? = some (.int .i64 (nthD ds j).1.eos)) ∧
  (us[j * 10 + 7]? = some (.int .i64 (nthD ds j).2.L) ∧ us[j * 10 + 8]? = some (.int .i64 (nthD ds j).2.S) ∧ us[j * 10 + 9]? = some (.int .i64 (nthD ds j).2.E))
theorem nthD_left (ds : List Pld) (d : Pld) (j : Nat) (h : j < ds.length) : nthD (ds ++ [d]) j = nthD ds j := by unfold nthD; rw [List.getElem?_append_left h]
theorem nthD_right (ds : List Pld) (d : Pld) : nthD (ds ++ [d]) ds.length = d := by simp [nthD]
def dcells (u u0 u1 u2 : Value) (d : Pld) : List Value := [u, .int .i64 d.1.level, .int .i64 d.1.sos, .int .i64 d.1.eos, u0, u1, u2, .int .i64 d.2.L, .int .i64 d.2.S, .int .i64 d.2.E]
theorem ScalD.app {us : List Value} {ds : List Pld} (h : ScalD us ds) (hl : us.length = ds.length * 10) (u u0 u1 u2 : Value) (d : Pld) : ScalD (us ++ dcells u u0 u1 u2 d) (ds ++ [d]) := by
  intro j hj
  by_cases hlt : j < ds.length
  · have e : ∀ i, i < 10 → (us ++ dcells u u0 u1 u2 d)[j * 10 + i]? = us[j * 10 + i]? := fun i hi => List.getElem?_append_left (by omega)
    rw [e 1 (by omega), e 2 (by omega), e 3 (by omega), e 7 (by omega), e 8 (by omega), e 9 (by omega), nthD_left ds d j hlt]
    exact h j hlt
  · have ej : j = ds.length := by simp at hj; omega
    subst ej
    have e : ∀ i, (us ++ dcells u u0 u1 u2 d)[ds.length * 10 + i]? = (dcells u u0 u1 u2 d)[i]? := fun i => by
      rw [List.getElem?_append_right (by omega), hl, show ds.length * 10 + i - ds.length * 10 = i by omega]
    rw [nthD_right, e 1, e 2, e 3, e 7, e 8, e 9]
    exact ⟨⟨rfl, rfl, rfl⟩, rfl, rfl, rfl⟩

/-- v holds the placed parts ds, all of it the call's own -/
structure OwnD (w : World) (lo hi : Nat) (tt t : TypeId) (v : Value) (ds : List Pld) (us : List Value) : Prop where
  rows : OwnC w lo hi tt 10 v ds.length us (contsD t ds)
  sc : ScalD us ds
section
variable {w w' : World} {lo hi B : Nat} {tt t : TypeId} {v : Value} {ds : List Pld} {us : List Value}
theorem OwnD.form (h : OwnD w lo hi tt t v ds us) : ∃ A c, v = .slice A ds.length c := own_form h.rows.row
theorem OwnD.len (h : OwnD w lo hi tt t v ds us) : us.length = ds.length * 10 := h.rows.row.1
theorem OwnD.nil (w : World) (lo hi : Nat) (tt t : TypeId) : OwnD w lo hi tt t (.slice none 0 0) [] [] := ⟨by
  have := OwnC.nil w lo hi tt 10
  have e : contsD t [] = fun _ => none := by funext k; unfold contsD; split <;> simp
  rw [e]; exact this, fun j hj => by simp at hj⟩
theorem OwnD.below {C : Nat} (h : OwnD w lo hi tt t v ds us) (hb : Below C w w') (hB : hi ≤ C) : OwnD w' lo hi tt t v ds us := ⟨h.rows.below hb hB, h.sc⟩
theorem OwnD.alloc (h : OwnD w lo hi tt t v ds us) (o : Obj) : OwnD (w.alloc o) lo hi tt t v ds us := ⟨h.rows.alloc o, h.sc⟩
theorem OwnD.more {lo' hi' : Nat} (h : OwnD w lo hi tt t v ds us) (h1 : lo' ≤ lo) (h2 : hi ≤ hi') : OwnD w lo' hi' tt t v ds us := ⟨h.rows.more h1 h2, h.sc⟩
theorem OwnD.keep (h : OwnD w lo hi tt t v ds us) (hk : ∀ k, k < w.heap.size → lo ≤ k → k < hi → w'.heap[k]? = w.heap[k]?) : OwnD w' lo hi tt t v ds us := ⟨h.rows.keep hk, h.sc⟩
/-- one put behind: its places lie in an elder block of their own, its part's lists in newer ones -/
theorem OwnD.push {mid : Nat} (h : OwnD w lo mid tt t v ds us) {v' u u0 u1 u2 : Value} {d : Pld} (hmid : mid ≤ hi) (hhi : hi ≤ w.heap.size) (hlm : lo ≤ mid) (hu : Own w lo mid t .i64 u d.1.places) (ho : OwnPart w mid hi t u0 u1 u2 d.2)
    (hup : ∀ (i : Nat) (x : Value), us[i]? = some x → x.ownBlock = none ∨ x.ownBlock ≠ u.ownBlock) (huv : u.ownBlock = none ∨ u.ownBlock ≠ v.ownBlock)
    (hrow : w'.ownsRow lo tt 10 v' (ds.length + 1) (us ++ dcells u u0 u1 u2 d)) (hg : w.grownBy w' v.ownBlock) (hv : v'.ownBlock = v.ownBlock ∨ v'.ownBlock = some w.heap.size) : OwnD w' lo w'.heap.size tt t v' (ds ++ [d]) (us ++ dcells u u0 u1 u2 d) := by
  have hl := h.len
  -- what the new cells are: the places, a list of the part, or no slice
  have new : ∀ (j : Nat) (x : Value), (dcells u u0 u1 u2 d)[j]? = some x → (j = 0 ∧ x = u) ∨ (4 ≤ j ∧ j < 7 ∧ Own w mid hi t .i64 x (three d.2 (j - 4))) ∨ (isL j = false ∧ x.ownBlock = none) := by
    intro j x hx
    match j with
    | 0 => simp [dcells] at hx; exact .inl ⟨rfl, hx.symm⟩
    | 1 => simp [dcells] at hx; subst hx; exact .inr (.inr ⟨rfl, rfl⟩)
    | 2 => simp [dcells] at hx; subst hx; exact .inr (.inr ⟨rfl, rfl⟩)
    | 3 => simp [dcells] at hx; subst hx; exact .inr (.inr ⟨rfl, rfl⟩)
    | 4 => simp [dcells] at hx; subst hx; exact .inr (.inl ⟨by omega, by omega, ho.o0⟩)
    | 5 => simp [dcells] at hx; subst hx; exact .inr (.inl ⟨by omega, by omega, ho.o1⟩)
    | 6 => simp [dcells] at hx; subst hx; exact .inr (.inl ⟨by omega, by omega, ho.o2⟩)
    | 7 => simp [dcells] at hx; subst hx; exact .inr (.inr ⟨rfl, rfl⟩)
    | 8 => simp [dcells] at hx; subst hx; exact .inr (.inr ⟨rfl, rfl⟩)
    | 9 => simp [dcells] at hx; subst hx; exact .inr (.inr ⟨rfl, rfl⟩)
    | j + 10 => simp [dcells] at hx
  have farU : ∀ (x y : Value) (zs : List Int), Own w mid hi t .i64 y zs → (∀ g, x.ownBlock = some g → g < mid) → x.ownBlock = none ∨ x.ownBlock ≠ y.ownBlock := by
    intro x y zs o hx
    by_cases hn : x.ownBlock = none
    · exact .inl hn
    · refine .inr fun e => ?_
      obtain ⟨g, hg⟩ := Option.ne_none_iff_exists'.1 hn
      have h1 := hx g hg
      have h2 := o.lt g (by rw [← e, hg])
      omega
  have apartU : ∀ (i j : Nat) (x y : Value), us[i]? = some x → (dcells u u0 u1 u2 d)[j]? = some y → x.ownBlock = none ∨ x.ownBlock ≠ y.ownBlock := by
    intro i j x y hx hy
    rcases new j y hy with ⟨_, rfl⟩ | ⟨_, _, o⟩ | ⟨_, o⟩
    · exact hup i x hx
    · exact farU x y _ o fun g hg => (h.rows.lts i x g hx hg).2.1
    · by_cases hn : x.ownBlock = none
      · exact .inl hn
      · exact .inr (by rw [o]; exact hn)
  have uv : ∀ (j : Nat) (y : Value), (dcells u u0 u1 u2 d)[j]? = some y → y.ownBlock = none ∨ y.ownBlock ≠ v.ownBlock := by
    intro j y hy
    rcases new j y hy with ⟨_, rfl⟩ | ⟨_, _, o⟩ | ⟨_, o⟩
    · exact huv
    · exact own_ne_symm (farU v y _ o fun g hg => (h.rows.vlt g hg).2.1)
    · exact .inl o
  have both : ∀ (i j : Nat) (x y : Value), i < j → (dcells u u0 u1 u2 d)[i]? = some x → (dcells u u0 u1 u2 d)[j]? = some y → x.ownBlock = none ∨ x.ownBlock ≠ y.ownBlock := by
    intro i j x y hij hx hy
    rcases new j y hy with ⟨h0, _⟩ | ⟨h4, h7, o⟩ | ⟨_, o⟩
    · omega
    · rcases new i x hx with ⟨_, rfl⟩ | ⟨g4, g7, _⟩ | ⟨_, o'⟩
      · exact farU x y _ o fun g hg => (hu.lt g hg).2
      · match i, j with
        | 4, 5 => simp [dcells] at hx hy; subst hx; subst hy; exact ho.d01
        | 4, 6 => simp [dcells] at hx hy; subst hx; subst hy; exact ho.d02
        | 5, 6 => simp [dcells] at hx hy; subst hx; subst hy; exact ho.d12
        | 4, 4 => omega
        | 5, 5 => omega
        | 6, 6 => omega
        | 5, 4 => omega
        | 6, 4 => omega
        | 6, 5 => omega
        | 0, _ => omega
        | 1, _ => omega
        | 2, _ => omega
        | 3, _ => omega
        | i + 7, _ => omega
        | _, 0 => omega
        | _, 1 => omega
        | _, 2 => omega
        | _, 3 => omega
        | _, j + 7 => omega
      · exact .inl o'
    · by_cases hn : x.ownBlock = none
      · exact .inl hn
      · exact .inr (by rw [o]; exact hn)
  have := (h.rows.more (Nat.le_refl _) hmid).push (m := 1) (news := dcells u u0 u1 u2 d) (cn := contsD t [d]) hrow hg hv hhi
    (fun k c hc => by
      obtain ⟨j, i, hj, hi3, rfl, rfl⟩ := contsD_some t [d] k c hc
      have e : j = 0 := by simp at hj; exact hj
      subst e
      have z : nthD [d] 0 = d := rfl
      rw [z, Nat.zero_mul, Nat.zero_add]
      match i with
      | 0 => exact ⟨u, rfl, hu.more (Nat.le_refl _) hmid⟩
      | 4 => exact ⟨u0, rfl, ho.o0.more hlm (Nat.le_refl _)⟩
      | 5 => exact ⟨u1, rfl, ho.o1.more hlm (Nat.le_refl _)⟩
      | 6 => exact ⟨u2, rfl, ho.o2.more hlm (Nat.le_refl _)⟩
      | 1 => cases hi3
      | 2 => cases hi3
      | 3 => cases hi3
      | i + 7 => simp [isL] at hi3; omega)
    (fun k x hx hc => by
      rcases new k x hx with ⟨h0, _⟩ | ⟨h4, h7, _⟩ | ⟨_, h3⟩
      · subst h0; rw [show 0 = 0 * 10 + 0 by omega, contsD_get t [d] 0 0 (by simp) rfl] at hc; cases hc
      · rw [show k = 0 * 10 + k by omega, contsD_get t [d] 0 k (by simp) (by simp [isL]; omega)] at hc; cases hc
      · exact h3)
    both apartU uv
  have e : (fun k => if k < us.length then contsD t ds k else contsD t [d] (k - us.length)) = contsD t (ds ++ [d]) := by
    rw [hl]; exact contsD_app t ds d
  rw [e] at this
  refine ⟨?_, h.sc.app hl u u0 u1 u2 d⟩
  rw [List.length_append]
  exact this
/-- where the j-th lies -/
theorem OwnD.at_ (h : OwnD w lo hi tt t v ds us) (j : Nat) (hj : j < ds.length) : ∃ g c u u0 u1 u2, v = .slice (some ⟨g, 0, none⟩) ds.length c ∧ lo ≤ g ∧ g < hi ∧
    (us[j * 10 + 0]? = some u ∧ us[j * 10 + 4]? = some u0 ∧ us[j * 10 + 5]? = some u1 ∧ us[j * 10 + 6]? = some u2) ∧
    (w.cell? ⟨g, j * 10, none⟩ = some u ∧ w.cell? ⟨g, j * 10 + 4, none⟩ = some u0 ∧ w.cell? ⟨g, j * 10 + 5, none⟩ = some u1 ∧ w.cell? ⟨g, j * 10 + 6, none⟩ = some u2) ∧
    Own w lo hi t .i64 u (nthD ds j).1.places ∧ OwnPart w lo hi t u0 u1 u2 (nthD ds j).2 ∧
    ((w.cell? ⟨g, j * 10 + 1, none⟩ = some (.int .i64 (nthD ds j).1.level) ∧ w.cell? ⟨g, j * 10 + 2, none⟩ = some (.int .i64 (nthD ds j).1.sos) ∧ w.cell? ⟨g, j * 10 + 3, none⟩ = some (.int .i64 (nthD ds j).1.eos)) ∧
     (w.cell? ⟨g, j * 10 + 7, none⟩ = some (.int .i64 (nthD ds j).2.L) ∧ w.cell? ⟨g, j * 10 + 8, none⟩ = some (.int .i64 (nthD ds j).2.S) ∧ w.cell? ⟨g, j * 10 + 9, none⟩ = some (.int .i64 (nthD ds j).2.E))) := by
  obtain ⟨u, h0, o0⟩ := h.rows.each (j * 10 + 0) _ (contsD_get t ds j 0 hj rfl)
  obtain ⟨u0, h4, o4⟩ := h.rows.each (j * 10 + 4) _ (contsD_get t ds j 4 hj rfl)
  obtain ⟨u1, h5, o5⟩ := h.rows.each (j * 10 + 5) _ (contsD_get t ds j 5 hj rfl)
  obtain ⟨u2, h6, o6⟩ := h.rows.each (j * 10 + 6) _ (contsD_get t ds j 6 hj rfl)
  obtain ⟨⟨s1, s2, s3⟩, s7, s8, s9⟩ := h.sc j hj
  have hl := h.len
  have hrow := h.rows.row
  have ap := h.rows.apart
  have d01 := ap (j * 10 + 4) (j * 10 + 5) u0 u1 (by omega) h4 h5
  have d02 := ap (j * 10 + 4) (j * 10 + 6) u0 u2 (by omega) h4 h6
  have d12 := ap (j * 10 + 5) (j * 10 + 6) u1 u2 (by omega) h5 h6
  rcases hrow.2 with ⟨_, h0'⟩ | ⟨g, cap, cur, hv, hb, hg, hn, hm, hs, htk⟩
  · omega
  · subst hv
    have ca : ∀ i (x : Value), i < 10 → us[j * 10 + i]? = some x → w.cell? ⟨g, j * 10 + i, none⟩ = some x := fun i x hi hx => by rw [hrow.cellAt _ (by omega)]; exact hx
    exact ⟨g, cap, u, u0, u1, u2, rfl, hb, h.rows.top g rfl, ⟨h0, h4, h5, h6⟩, ⟨ca 0 _ (by omega) h0, ca 4 _ (by omega) h4, ca 5 _ (by omega) h5, ca 6 _ (by omega) h6⟩, o0,
      ⟨o4, o5, o6, d01, d02, own_ne_symm d01, d12, own_ne_symm d02, own_ne_symm d12⟩, ⟨ca 1 _ (by omega) s1, ca 2 _ (by omega) s2, ca 3 _ (by omega) s3⟩, ca 7 _ (by omega) s7, ca 8 _ (by omega) s8, ca 9 _ (by omega) s9⟩
end
/-- a part put behind whose lists lie apart from those that are there -/
theorem OwnPs.push2 {w w' : World} {lo hi : Nat} {tt t : TypeId} {v : Value} {qs : List Prt} {us : List Value} (h : OwnPs w lo hi tt t v qs us) {v' u0 u1 u2 : Value} {q : Prt} (hhi : hi ≤ w.heap.size) (ho : OwnPart w lo hi t u0 u1 u2 q)
    (a2 : ∀ (i : Nat) (x : Value), us[i]? = some x → (x.ownBlock = none ∨ x.ownBlock ≠ u0.ownBlock) ∧ (x.ownBlock = none ∨ x.ownBlock ≠ u1.ownBlock) ∧ (x.ownBlock = none ∨ x.ownBlock ≠ u2.ownBlock))
    (a3 : (u0.ownBlock = none ∨ u0.ownBlock ≠ v.ownBlock) ∧ (u1.ownBlock = none ∨ u1.ownBlock ≠ v.ownBlock) ∧ (u2.ownBlock = none ∨ u2.ownBlock ≠ v.ownBlock))
    (hrow : w'.ownsRow lo tt 6 v' (qs.length + 1) (us ++ pcells u0 u1 u2 q)) (hg : w.grownBy w' v.ownBlock) (hv : v'.ownBlock = v.ownBlock ∨ v'.ownBlock = some w.heap.size) : OwnPs w' lo w'.heap.size tt t v' (qs ++ [q]) (us ++ pcells u0 u1 u2 q) := by
  have hl := h.len
  have new : ∀ (j : Nat) (x : Value), (pcells u0 u1 u2 q)[j]? = some x → (j = 0 ∧ x = u0) ∨ (j = 1 ∧ x = u1) ∨ (j = 2 ∧ x = u2) ∨ (3 ≤ j ∧ x.ownBlock = none) := by
    intro j x hx
    match j with
    | 0 => simp [pcells] at hx; exact .inl ⟨rfl, hx.symm⟩
    | 1 => simp [pcells] at hx; exact .inr (.inl ⟨rfl, hx.symm⟩)
    | 2 => simp [pcells] at hx; exact .inr (.inr (.inl ⟨rfl, hx.symm⟩))
    | 3 => simp [pcells] at hx; subst hx; exact .inr (.inr (.inr ⟨by omega, rfl⟩))
    | 4 => simp [pcells] at hx; subst hx; exact .inr (.inr (.inr ⟨by omega, rfl⟩))
    | 5 => simp [pcells] at hx; subst hx; exact .inr (.inr (.inr ⟨by omega, rfl⟩))
    | j + 6 => simp [pcells] at hx
  have nn : ∀ (x y : Value), y.ownBlock = none → x.ownBlock = none ∨ x.ownBlock ≠ y.ownBlock := by
    intro x y hy
    by_cases hn : x.ownBlock = none
    · exact .inl hn
    · exact .inr (by rw [hy]; exact hn)
  have := h.rows.push (m := 1) (news := pcells u0 u1 u2 q) (cn := contsP t [q]) hrow hg hv hhi
    (fun k c hc => by
      obtain ⟨j, i, hj, hi3, rfl, rfl⟩ := contsP_some t [q] k c hc
      have e : j = 0 := by simp at hj; exact hj
      subst e
      have z : nthT [q] 0 = q := rfl
      rw [z, Nat.zero_mul, Nat.zero_add]
      match i with
      | 0 => exact ⟨u0, rfl, ho.o0⟩
      | 1 => exact ⟨u1, rfl, ho.o1⟩
      | 2 => exact ⟨u2, rfl, ho.o2⟩
      | i + 3 => omega)
    (fun k x hx hc => by
      rcases new k x hx with ⟨h0, _⟩ | ⟨h0, _⟩ | ⟨h0, _⟩ | ⟨_, h3⟩
      · rw [show k = 0 * 6 + k by omega, contsP_get t [q] 0 k (by simp) (by omega)] at hc; cases hc
      · rw [show k = 0 * 6 + k by omega, contsP_get t [q] 0 k (by simp) (by omega)] at hc; cases hc
      · rw [show k = 0 * 6 + k by omega, contsP_get t [q] 0 k (by simp) (by omega)] at hc; cases hc
      · exact h3)
    (fun i j x y hij hx hy => by
      rcases new j y hy with ⟨hj, rfl⟩ | ⟨hj, rfl⟩ | ⟨hj, rfl⟩ | ⟨_, o⟩
      · omega
      · rcases new i x hx with ⟨_, rfl⟩ | ⟨hi, _⟩ | ⟨hi, _⟩ | ⟨_, o⟩
        · exact ho.d01
        · omega
        · omega
        · exact .inl o
      · rcases new i x hx with ⟨_, rfl⟩ | ⟨_, rfl⟩ | ⟨hi, _⟩ | ⟨_, o⟩
        · exact ho.d02
        · exact ho.d12
        · omega
        · exact .inl o
      · exact nn x y o)
    (fun i j x y hx hy => by
      rcases new j y hy with ⟨_, rfl⟩ | ⟨_, rfl⟩ | ⟨_, rfl⟩ | ⟨_, o⟩
      · exact (a2 i x hx).1
      · exact (a2 i x hx).2.1
      · exact (a2 i x hx).2.2
      · exact nn x y o)
    (fun j y hy => by
      rcases new j y hy with ⟨_, rfl⟩ | ⟨_, rfl⟩ | ⟨_, rfl⟩ | ⟨_, o⟩
      · exact a3.1
      · exact a3.2.1
      · exact a3.2.2
      · exact .inl o)
  have e : (fun k => if k < us.length then contsP t qs k else contsP t [q] (k - us.length)) = contsP t (qs ++ [q]) := by
    rw [hl]; exact contsP_app t qs q
  rw [e] at this
  refine ⟨?_, h.sc.app hl u0 u1 u2 q⟩
  rw [List.length_append]
  exact this
end Go.Proofs.YtcfnhjpmihngdaaGreat
