/- Rows of parts: six cells each, the first three slices of numbers. No program is named here. -/
import Derived.Test.YtcfnhjpmihngdaaGreatY20
import Derived.Test.YtcfnhjpmihngdaaGreatY06
import Derived.Test.YtcfnhjpmihngdaaGreatY02
import Derived.Test.YtcfnhjpmihngdaaGreatY07
namespace Go.Proofs.YtcfnhjpmihngdaaGreat
open Go.RowKit

def prs (l : List Pr) : List Value := l.flatMap fun x => [.int .i64 x.1, .int .i64 x.2]
theorem prs_nil : prs [] = [] := rfl
theorem prs_cons (x : Pr) (l : List Pr) : prs (x :: l) = .int .i64 x.1 :: .int .i64 x.2 :: prs l := rfl
theorem prs_len : ∀ l : List Pr, (prs l).length = l.length * 2
  | [] => rfl
  | x :: l => by rw [prs_cons, List.length_cons, List.length_cons, prs_len l]; simp; omega
theorem prs_app (l : List Pr) (x : Pr) : prs (l ++ [x]) = prs l ++ [.int .i64 x.1, .int .i64 x.2] := by simp [prs]
theorem prs_get : ∀ (l : List Pr) (k : Nat), k < l.length → (prs l)[k * 2]? = some (.int .i64 (nthP l k).1) ∧ (prs l)[k * 2 + 1]? = some (.int .i64 (nthP l k).2)
  | [], k, h => by simp at h
  | x :: l, 0, _ => ⟨rfl, rfl⟩
  | x :: l, k + 1, h => by
    have ih := prs_get l k (by simpa using h)
    rw [prs_cons, show (k + 1) * 2 = (k * 2) + 1 + 1 by omega]
    have e : nthP (x :: l) (k + 1) = nthP l k := by simp [nthP]
    rw [e]
    exact ⟨by simpa using ih.1, by simpa using ih.2⟩
theorem prs_take : ∀ (l : List Pr) (k : Nat), (prs l).take (k * 2) = prs (l.take k)
  | [], k => by simp [prs]
  | x :: l, 0 => rfl
  | x :: l, k + 1 => by
    rw [prs_cons, show (k + 1) * 2 = (k * 2) + 1 + 1 by omega, List.take_succ_cons, List.take_succ_cons, List.take_succ_cons, prs_cons, prs_take l k]
theorem prs_one (l : List Pr) : ∀ u ∈ prs l, u.oneCell' = true := by
  intro u hu
  simp only [prs, List.mem_flatMap, List.mem_cons, List.not_mem_nil, or_false] at hu
  obtain ⟨x, _, rfl | rfl⟩ := hu <;> rfl
/-- a row, cut short -/
theorem own_take {w : World} {base n m cap g size : Nat} {e : TypeId} {xs : List Value} (h : w.ownsRow base e size (.slice (some ⟨g, 0, none⟩) n cap) n xs) (hm : m ≤ n) : w.ownsRow base e size (.slice (some ⟨g, 0, none⟩) m cap) m (xs.take (m * size)) := by
  obtain ⟨h1, h2⟩ := h
  rcases h2 with ⟨h0, _⟩ | ⟨g', cap', cur, hv, hg, hh, hn, hcap, hsz, ht⟩
  · cases h0
  · cases hv
    have hle : m * size ≤ n * size := Nat.mul_le_mul_right _ hm
    refine ⟨by rw [List.length_take, h1]; omega, .inr ⟨g, cap, cur, rfl, hg, hh, by omega, hcap, hsz, ?_⟩⟩
    rw [← ht, List.take_take, Nat.min_eq_left hle]

/-- v is a slice of the call's own that holds these pairs -/
def OwnPr (w : World) (lo hi : Nat) (t : TypeId) (v : Value) (l : List Pr) : Prop := w.ownsRow lo t 2 v l.length (prs l) ∧ ∀ g, v.ownBlock = some g → g < hi
/-- v is a slice that reads as these pairs -/
def SeesPr (w : World) (B : Nat) (v : Value) (l : List Pr) : Prop := ∃ A c, v = .slice A l.length c ∧ Rd w B A (prs l)
section
variable {w w' : World} {lo hi lo' hi' B C : Nat} {t : TypeId} {v u : Value} {l : List Pr}
theorem OwnPr.form (h : OwnPr w lo hi t v l) : ∃ A c, v = .slice A l.length c := own_form h.1
theorem OwnPr.lt (h : OwnPr w lo hi t v l) : ∀ g, v.ownBlock = some g → lo ≤ g ∧ g < hi := fun g hg => ⟨(h.1.lt g hg).1, h.2 g hg⟩
theorem OwnPr.mk_ {n : Nat} (h : w.ownsRow lo t 2 v n (prs l)) (hn : n = l.length) : OwnPr w lo w.heap.size t v l := by
  subst hn
  exact ⟨h, fun g hg => (h.lt g hg).2⟩
theorem OwnPr.nil (w : World) (lo hi : Nat) (t : TypeId) : OwnPr w lo hi t (.slice none 0 0) [] := ⟨World.ownsRow_nil _ _ _ _, by simp [Value.ownBlock]⟩
theorem OwnPr.keep (h : OwnPr w lo hi t v l) (hk : ∀ k, k < w.heap.size → lo ≤ k → k < hi → w'.heap[k]? = w.heap[k]?) : OwnPr w' lo hi t v l := by
  refine ⟨⟨h.1.1, ?_⟩, h.2⟩
  rcases h.1.2 with hn | ⟨g, cap, cur, rfl, hb, hg, rest⟩
  · exact .inl hn
  · exact .inr ⟨g, cap, cur, rfl, hb, by rw [hk g (Array.getElem?_eq_some_iff.1 hg).1 hb (h.2 g rfl)]; exact hg, rest⟩
theorem OwnPr.below (h : OwnPr w lo hi t v l) (hb : Below B w w') (hB : hi ≤ B) : OwnPr w' lo hi t v l := h.keep fun k _ _ hk => hb.block k (Nat.lt_of_lt_of_le hk hB)
theorem OwnPr.out (h : OwnPr w lo hi t v l) (hb : Out lo' hi' w w') (hd : hi ≤ lo' ∨ hi' ≤ lo) : OwnPr w' lo hi t v l := h.keep fun k hk h1 h2 => hb.block k hk (by omega)
theorem OwnPr.grown (h : OwnPr w lo hi t v l) (hb : w.grownBy w' u.ownBlock) (hd : v.ownBlock = none ∨ v.ownBlock ≠ u.ownBlock) : OwnPr w' lo hi t v l := ⟨h.1.kept hb hd, h.2⟩
theorem OwnPr.more (h : OwnPr w lo hi t v l) (h1 : lo' ≤ lo) (h2 : hi ≤ hi') : OwnPr w lo' hi' t v l := ⟨own_more h.1 h1, fun g hg => Nat.lt_of_lt_of_le (h.2 g hg) h2⟩
theorem OwnPr.alloc (h : OwnPr w lo hi t v l) (o : Obj) : OwnPr (w.alloc o) lo hi t v l := h.keep fun k hk _ _ => Below.heap_alloc w o k hk
theorem OwnPr.set (h : OwnPr w lo hi t v l) (p : Addr) (x : Value) (hp : p.block < lo ∨ hi ≤ p.block) : OwnPr (w.setCell p x) lo hi t v l := h.keep fun k _ h1 h2 => heap_setCell_other w p k x (by omega)
theorem OwnPr.sees (h : OwnPr w lo hi t v l) : SeesPr w hi v l := by
  obtain ⟨A, c, rfl⟩ := h.form
  refine ⟨A, c, rfl, ?_⟩
  intro k x hx
  rcases h.1.2 with ⟨hv, hn⟩ | ⟨g, cap, cur, hv, _, hg, _, _, _, _⟩
  · injection hv with _ h2
    have : l = [] := List.eq_nil_of_length_eq_zero hn
    subst this
    simp [prs] at hx
  · have hA : A = some ⟨g, 0, none⟩ := by injection hv
    subst hA
    have hc := h.1.cells (g := g) rfl k x hx
    refine ⟨g, 0, rfl, h.2 g rfl, ?_⟩
    have e : (⟨g, 0, none⟩ : Addr).add k = ⟨g, 0 + k, none⟩ := by unfold Addr.add; split <;> simp_all
    rw [← e]; exact hc
theorem SeesPr.keep (h : SeesPr w B v l) (hk : ∀ k, k < B → w'.heap[k]? = w.heap[k]?) : SeesPr w' B v l := by
  obtain ⟨A, c, rfl, hr⟩ := h
  exact ⟨A, c, rfl, hr.keep fun p hp => by unfold World.cell?; rw [hk p.block hp]⟩
theorem SeesPr.below (h : SeesPr w B v l) (hb : Below C w w') (hB : B ≤ C) : SeesPr w' B v l := h.keep fun k hk => hb.block k (Nat.lt_of_lt_of_le hk hB)
theorem SeesPr.out (h : SeesPr w B v l) (hb : Out lo hi w w') (hB : B ≤ lo) (hw : B ≤ w.heap.size) : SeesPr w' B v l := h.keep fun k hk => hb.block k (by omega) (by omega)
theorem SeesPr.more {B' : Nat} (h : SeesPr w B v l) (hB : B ≤ B') : SeesPr w B' v l := by obtain ⟨A, c, rfl, hr⟩ := h; exact ⟨A, c, rfl, hr.more hB⟩
theorem SeesPr.at_ (h : SeesPr w B v l) (k : Nat) (hk : k < l.length) : ∃ b off c, v = .slice (some ⟨b, off, none⟩) l.length c ∧ b < B ∧ w.cell? ⟨b, off + k * 2, none⟩ = some (.int .i64 (nthP l k).1) ∧ w.cell? ⟨b, off + k * 2 + 1, none⟩ = some (.int .i64 (nthP l k).2) := by
  obtain ⟨A, c, rfl, hr⟩ := h
  obtain ⟨g1, g2⟩ := prs_get l k hk
  obtain ⟨b, off, rfl, hb, hc⟩ := hr _ _ g1
  obtain ⟨b', off', e, _, hc'⟩ := hr _ _ g2
  cases e
  exact ⟨b, off, c, rfl, hb, hc, hc'⟩
theorem ownPr_at {n : Nat} (h : w.ownsRow lo t 2 v n (prs l)) (hn : n = l.length) (k : Nat) (hk : k < l.length) : ∃ g c, v = .slice (some ⟨g, 0, none⟩) n c ∧ lo ≤ g ∧ w.cell? ⟨g, k * 2, none⟩ = some (.int .i64 (nthP l k).1) ∧ w.cell? ⟨g, k * 2 + 1, none⟩ = some (.int .i64 (nthP l k).2) := by
  subst hn
  obtain ⟨g1, g2⟩ := prs_get l k hk
  rcases h.2 with ⟨_, h0⟩ | ⟨g, cap, cur, hv, hb, _⟩
  · omega
  · subst hv
    have hl := prs_len l
    exact ⟨g, cap, rfl, hb, (h.cellAt (k * 2) (by omega)).trans g1, (h.cellAt (k * 2 + 1) (by omega)).trans g2⟩
end

/-- a part behind a pointer, all of it only read -/
structure PtR (w : World) (T : TypeId) (B g : Nat) (v0 v1 v2 : Value) (p : Prt) : Prop where
  blk : Blk w g T #[v0, v1, v2, .int .i64 p.L, .int .i64 p.S, .int .i64 p.E]
  lt : g < B
  s0 : Sees w B .i64 v0 p.T
  s1 : Sees w B .i64 v1 p.F
  s2 : Sees w B .i64 v2 p.N
theorem PtR.below {w w' : World} {T : TypeId} {B C g : Nat} {v0 v1 v2 : Value} {p : Prt} (h : PtR w T B g v0 v1 v2 p) (hb : Below C w w') (hC : B ≤ C) : PtR w' T B g v0 v1 v2 p :=
  ⟨h.blk.below hb (by have := h.lt; omega), h.lt, h.s0.below hb hC, h.s1.below hb hC, h.s2.below hb hC⟩
theorem PtR.drew {w : World} {T : TypeId} {B g : Nat} {v0 v1 v2 : Value} {p : Prt} (h : PtR w T B g v0 v1 v2 p) (n : Nat) : PtR (w.drewN n) T B g v0 v1 v2 p := ⟨h.blk, h.lt, h.s0, h.s1, h.s2⟩
theorem sees_up {w : World} {B B' : Nat} {kd : IntKind} {v : Value} {zs : List Int} (h : Sees w B kd v zs) (hB : B ≤ B') : Sees w B' kd v zs := by obtain ⟨A, c, e, r⟩ := h; exact ⟨A, c, e, r.more hB⟩
theorem PtR.new (w : World) (T : TypeId) (B : Nat) (v0 v1 v2 : Value) (p : Prt) (hB : B ≤ w.heap.size) (h0 : Sees w B .i64 v0 p.T) (h1 : Sees w B .i64 v1 p.F) (h2 : Sees w B .i64 v2 p.N) :
    PtR (w.alloc (.cells #[v0, v1, v2, .int .i64 p.L, .int .i64 p.S, .int .i64 p.E] T)) T (w.heap.size + 1) w.heap.size v0 v1 v2 p :=
  ⟨Blk.new w _ _, by omega, sees_up (h0.alloc hB _) (by omega), sees_up (h1.alloc hB _) (by omega), sees_up (h2.alloc hB _) (by omega)⟩
end Go.Proofs.YtcfnhjpmihngdaaGreat

namespace Go.Proofs.YtcfnhjpmihngdaaGreat
open Go.RowKit

set_option maxRecDepth 100000 in
set_option maxHeartbeats 400000 in
theorem eqPart_same (x3 : Int) (x4 : Int) (x5 : Int) (v0 u0 : Value) (zs0 : List Int) (v1 u1 : Value) (zs1 : List Int) (v2 u2 : Value) (zs2 : List Int) (w : World) (B B' : Nat) (h0 : Sees w B .i64 v0 zs0) (g0 : Sees w B' .i64 u0 zs0) (l0 : zs0.length < 1000000000) (h1 : Sees w B .i64 v1 zs1) (g1 : Sees w B' .i64 u1 zs1) (l1 : zs1.length < 1000000000) (h2 : Sees w B .i64 v2 zs2) (g2 : Sees w B' .i64 u2 zs2) (l2 : zs2.length < 1000000000) (hB : B ≤ w.heap.size) (hB' : B' ≤ w.heap.size) :
    Calls Tryz.prog 40 #[.agg #[v0, v1, v2, .int .i64 x3, .int .i64 x4, .int .i64 x5], .agg #[u0, u1, u2, .int .i64 x3, .int .i64 x4, .int .i64 x5]] w fun e w' => e = .returned (.bool true) ∧ Below w.heap.size w w' := by
  have k3 : (x3 != x3) = false := by simp
  have k4 : (x4 != x4) = false := by simp
  have k5 : (x5 != x5) = false := by simp
  have b0 := ((Below.refl w.heap.size w).alloc (Nat.le_refl _) (.cells #[v0, v1, v2, .int .i64 x3, .int .i64 x4, .int .i64 x5] 39)).alloc (by simp) (.cells #[u0, u1, u2, .int .i64 x3, .int .i64 x4, .int .i64 x5] 39)
  go_enter Tryz.func40, Tryz.ntmps40
  go_wp2_with fail
  refine (eqInt64S_same _ _ zs0 _ B B' (h0.below b0 hB) (g0.below b0 hB') l0).mono ?_
  rintro e w0 ⟨rfl, n0, rfl⟩
  have b1 := below_drewN b0 n0
  go_wp2_with fail
  refine (eqInt64S_same _ _ zs1 _ B B' (h1.below b1 hB) (g1.below b1 hB') l1).mono ?_
  rintro e w1 ⟨rfl, n1, rfl⟩
  have b2 := below_drewN b1 n1
  go_wp2_with fail
  refine (eqInt64S_same _ _ zs2 _ B B' (by simpa only [World.drewN_drewN] using h2.below b2 hB) (by simpa only [World.drewN_drewN] using g2.below b2 hB') l2).mono ?_
  rintro e w2 ⟨rfl, n2, rfl⟩
  have b3 := below_drewN b2 n2
  go_wp2
  go_ret
  exact ⟨rfl, by simpa only [World.drewN_drewN] using b3⟩
/-- a part of the call's own: three slices in blocks of their own -/
structure OwnPart (w : World) (lo hi : Nat) (t : TypeId) (v0 v1 v2 : Value) (p : Prt) : Prop where
  o0 : Own w lo hi t .i64 v0 p.T
  o1 : Own w lo hi t .i64 v1 p.F
  o2 : Own w lo hi t .i64 v2 p.N
  d01 : v0.ownBlock = none ∨ v0.ownBlock ≠ v1.ownBlock
  d02 : v0.ownBlock = none ∨ v0.ownBlock ≠ v2.ownBlock
  d10 : v1.ownBlock = none ∨ v1.ownBlock ≠ v0.ownBlock
  d12 : v1.ownBlock = none ∨ v1.ownBlock ≠ v2.ownBlock
  d20 : v2.ownBlock = none ∨ v2.ownBlock ≠ v0.ownBlock
  d21 : v2.ownBlock = none ∨ v2.ownBlock ≠ v1.ownBlock
theorem own_far {w w' : World} {lo mid lo' hi : Nat} {t t' : TypeId} {kd kd' : IntKind} {v u : Value} {zs ys : List Int} (h : Own w lo mid t kd v zs) (k : Own w' lo' hi t' kd' u ys) (hm : mid ≤ lo') : v.ownBlock = none ∨ v.ownBlock ≠ u.ownBlock := by
  cases e : v.ownBlock with
  | none => exact .inl rfl
  | some g =>
    right
    intro e2
    have h1 := h.lt g e
    have h2 := k.lt g (by rw [← e2])
    omega
theorem own_far' {w w' : World} {lo mid lo' hi : Nat} {t t' : TypeId} {kd kd' : IntKind} {v u : Value} {zs ys : List Int} (h : Own w lo mid t kd v zs) (k : Own w' lo' hi t' kd' u ys) (hm : mid ≤ lo') : u.ownBlock = none ∨ u.ownBlock ≠ v.ownBlock := by
  cases e : u.ownBlock with
  | none => exact .inl rfl
  | some g =>
    right
    intro e2
    have h1 := k.lt g e
    have h2 := h.lt g (by rw [← e2])
    omega
theorem blk_away {w : World} {g : Nat} {t : TypeId} {cs : Array Value} (h : Blk w g t cs) (p : Addr) (u : Value) (hp : g ≠ p.block) : Blk (w.setCell p u) g t cs := (heap_setCell_other w p g u hp).trans h
end Go.Proofs.YtcfnhjpmihngdaaGreat

namespace Go.Proofs.YtcfnhjpmihngdaaGreat
open Go.RowKit

/-- a part's lists, by number -/
def three (p : Prt) (i : Nat) : List Int := if i = 0 then p.T else if i = 1 then p.F else p.N
def contsP (t : TypeId) (qs : List Prt) : Nat → Option Cont := fun k => if k % 6 < 3 then qs[k / 6]?.map fun p => ⟨t, .i64, three p (k % 6)⟩ else none
/-- an element, closed to simp -/
def nthT (qs : List Prt) (k : Nat) : Prt := qs[k]?.getD ⟨[], [], [], 0, 0, 0⟩
theorem nthT_get (qs : List Prt) (k : Nat) (h : k < qs.length) : qs[k]? = some (nthT qs k) := by simp [nthT, List.getElem?_eq_getElem h]
theorem contsP_get (t : TypeId) (qs : List Prt) (k i : Nat) (h : k < qs.length) (hi : i < 3) : contsP t qs (k * 6 + i) = some ⟨t, .i64, three (nthT qs k) i⟩ := by
  unfold contsP
  rw [if_pos (by omega), show (k * 6 + i) / 6 = k by omega, show (k * 6 + i) % 6 = i by omega, nthT_get qs k h]; rfl
theorem contsP_some (t : TypeId) (qs : List Prt) (k : Nat) (c : Cont) (h : contsP t qs k = some c) : ∃ j i, j < qs.length ∧ i < 3 ∧ k = j * 6 + i ∧ c = ⟨t, .i64, three (nthT qs j) i⟩ := by
  unfold contsP at h
  split at h
  · by_cases hj : k / 6 < qs.length
    · rw [nthT_get qs _ hj] at h
      injection h with h
      exact ⟨k / 6, k % 6, hj, by omega, by omega, h.symm⟩
    · rw [List.getElem?_eq_none (by omega)] at h; cases h
  · cases h
theorem contsP_app (t : TypeId) (qs : List Prt) (q : Prt) : (fun k => if k < qs.length * 6 then contsP t qs k else contsP t [q] (k - qs.length * 6)) = contsP t (qs ++ [q]) := by
  funext k
  by_cases hk : k < qs.length * 6
  · rw [if_pos hk]
    unfold contsP
    rw [List.getElem?_append_left (by omega)]
  · rw [if_neg hk]
    unfold contsP
    rw [List.getElem?_append_right (by omega), show (k - qs.length * 6) % 6 = k % 6 by omega, show (k - qs.length * 6) / 6 = k / 6 - qs.length by omega]
/-- the numbers in the cells -/
def ScalP (us : List Value) (qs : List Prt) : Prop := ∀ j, j < qs.length → us[j * 6 + 3]? = some (.int .i64 (nthT qs j).L) ∧ us[j * 6 + 4]? = some (.int .i64 (nthT qs j).S) ∧ us[j * 6 + 5]? = some (.int .i64 (nthT qs j).E)
theorem nthT_left (qs : List Prt) (q : Prt) (j : Nat) (h : j < qs.length) : nthT (qs ++ [q]) j = nthT qs j := by unfold nthT; rw [List.getElem?_append_left h]
theorem nthT_right (qs : List Prt) (q : Prt) : nthT (qs ++ [q]) qs.length = q := by simp [nthT]
theorem nthT_mem {qs : List Prt} {j : Nat} (h : j < qs.length) : nthT qs j ∈ qs := List.mem_of_getElem? (nthT_get qs j h)
def pcells (u0 u1 u2 : Value) (q : Prt) : List Value := [u0, u1, u2, .int .i64 q.L, .int .i64 q.S, .int .i64 q.E]
theorem ScalP.app {us : List Value} {qs : List Prt} (h : ScalP us qs) (hl : us.length = qs.length * 6) (u0 u1 u2 : Value) (q : Prt) : ScalP (us ++ pcells u0 u1 u2 q) (qs ++ [q]) := by
  intro j hj
  by_cases hlt : j < qs.length
  · rw [List.getElem?_append_left (by omega), List.getElem?_append_left (by omega), List.getElem?_append_left (by omega), nthT_left qs q j hlt]
    exact h j hlt
  · have e : j = qs.length := by simp at hj; omega
    subst e
    rw [nthT_right, List.getElem?_append_right (by omega), List.getElem?_append_right (by omega), List.getElem?_append_right (by omega), hl, show qs.length * 6 + 3 - qs.length * 6 = 3 by omega, show qs.length * 6 + 4 - qs.length * 6 = 4 by omega, show qs.length * 6 + 5 - qs.length * 6 = 5 by omega]
    exact ⟨rfl, rfl, rfl⟩

/-- v holds the parts qs, all of it the call's own -/
structure OwnPs (w : World) (lo hi : Nat) (tt t : TypeId) (v : Value) (qs : List Prt) (us : List Value) : Prop where
  rows : OwnC w lo hi tt 6 v qs.length us (contsP t qs)
  sc : ScalP us qs
structure SeesPs (w : World) (B : Nat) (v : Value) (qs : List Prt) (us : List Value) : Prop where
  rows : SeesC w B 6 v qs.length us (contsP 0 qs)
  sc : ScalP us qs
section
variable {w w' : World} {lo hi B : Nat} {tt t : TypeId} {v : Value} {qs : List Prt} {us : List Value}
theorem OwnPs.form (h : OwnPs w lo hi tt t v qs us) : ∃ A c, v = .slice A qs.length c := own_form h.rows.row
theorem OwnPs.len (h : OwnPs w lo hi tt t v qs us) : us.length = qs.length * 6 := h.rows.row.1
theorem OwnPs.nil (w : World) (lo hi : Nat) (tt t : TypeId) : OwnPs w lo hi tt t (.slice none 0 0) [] [] := ⟨by
  have := OwnC.nil w lo hi tt 6
  have e : contsP t [] = fun _ => none := by funext k; unfold contsP; split <;> simp
  rw [e]; exact this, fun j hj => by simp at hj⟩
theorem OwnPs.below {C : Nat} (h : OwnPs w lo hi tt t v qs us) (hb : Below C w w') (hB : hi ≤ C) : OwnPs w' lo hi tt t v qs us := ⟨h.rows.below hb hB, h.sc⟩
theorem OwnPs.alloc (h : OwnPs w lo hi tt t v qs us) (o : Obj) : OwnPs (w.alloc o) lo hi tt t v qs us := ⟨h.rows.alloc o, h.sc⟩
theorem OwnPs.drew (h : OwnPs w lo hi tt t v qs us) (n : Nat) : OwnPs (w.drewN n) lo hi tt t v qs us := ⟨h.rows.drew n, h.sc⟩
theorem OwnPs.set (h : OwnPs w lo hi tt t v qs us) (p : Addr) (u : Value) (hp : p.block < lo ∨ hi ≤ p.block) : OwnPs (w.setCell p u) lo hi tt t v qs us := ⟨h.rows.set p u hp, h.sc⟩
theorem OwnPs.out {lo' hi' : Nat} (h : OwnPs w lo hi tt t v qs us) (hb : Out lo' hi' w w') (hd : hi ≤ lo' ∨ hi' ≤ lo) : OwnPs w' lo hi tt t v qs us := ⟨h.rows.out hb hd, h.sc⟩
theorem OwnPs.more {lo' hi' : Nat} (h : OwnPs w lo hi tt t v qs us) (h1 : lo' ≤ lo) (h2 : hi ≤ hi') : OwnPs w lo' hi' tt t v qs us := ⟨h.rows.more h1 h2, h.sc⟩
theorem OwnPs.keep (h : OwnPs w lo hi tt t v qs us) (hk : ∀ k, k < w.heap.size → lo ≤ k → k < hi → w'.heap[k]? = w.heap[k]?) : OwnPs w' lo hi tt t v qs us := ⟨h.rows.keep hk, h.sc⟩
theorem OwnPs.sees (h : OwnPs w lo hi tt t v qs us) : SeesPs w hi v qs us := by
  obtain ⟨a, b, c⟩ := h.rows.sees
  refine ⟨⟨a, b, fun k c' hc => ?_⟩, h.sc⟩
  obtain ⟨j, i, hj, hi, rfl, rfl⟩ := contsP_some 0 qs k c' hc
  obtain ⟨u, h1, h2⟩ := c (j * 6 + i) _ (contsP_get t qs j i hj hi)
  exact ⟨u, h1, h2⟩
theorem SeesPs.below {C : Nat} (h : SeesPs w B v qs us) (hb : Below C w w') (hB : B ≤ C) : SeesPs w' B v qs us := ⟨h.rows.below hb hB, h.sc⟩
theorem SeesPs.out (h : SeesPs w B v qs us) (hb : Out lo hi w w') (hB : B ≤ lo) (hw : B ≤ w.heap.size) : SeesPs w' B v qs us := ⟨h.rows.out hb hB hw, h.sc⟩
theorem SeesPs.alloc (h : SeesPs w B v qs us) (hB : B ≤ w.heap.size) (o : Obj) : SeesPs (w.alloc o) B v qs us := ⟨h.rows.alloc hB o, h.sc⟩
theorem SeesPs.drew (h : SeesPs w B v qs us) (n : Nat) : SeesPs (w.drewN n) B v qs us := ⟨h.rows.drew n, h.sc⟩
theorem SeesPs.form (h : SeesPs w B v qs us) : ∃ A c, v = .slice A qs.length c := by obtain ⟨⟨A, c, e, _⟩, _⟩ := h.rows; exact ⟨A, c, e⟩
theorem SeesPs.more {B' : Nat} (h : SeesPs w B v qs us) (hB : B ≤ B') : SeesPs w B' v qs us := by
  obtain ⟨⟨⟨A, c, e, r⟩, hl, he⟩, hs⟩ := h
  exact ⟨⟨⟨A, c, e, r.more hB⟩, hl, fun k c' hc => by obtain ⟨u, h1, A', c'', e', r'⟩ := he k c' hc; exact ⟨u, h1, A', c'', e', r'.more hB⟩⟩, hs⟩
/-- where the k-th lies, and that it reads -/
theorem SeesPs.at_ (h : SeesPs w B v qs us) (k : Nat) (hk : k < qs.length) : ∃ b off c u0 u1 u2, v = .slice (some ⟨b, off, none⟩) qs.length c ∧ b < B ∧
    (w.cell? ⟨b, off + k * 6, none⟩ = some u0 ∧ w.cell? ⟨b, off + (k * 6 + 1), none⟩ = some u1 ∧ w.cell? ⟨b, off + (k * 6 + 2), none⟩ = some u2) ∧
    (Sees w B .i64 u0 (nthT qs k).T ∧ Sees w B .i64 u1 (nthT qs k).F ∧ Sees w B .i64 u2 (nthT qs k).N) ∧
    w.cell? ⟨b, off + (k * 6 + 3), none⟩ = some (.int .i64 (nthT qs k).L) ∧ w.cell? ⟨b, off + (k * 6 + 4), none⟩ = some (.int .i64 (nthT qs k).S) ∧ w.cell? ⟨b, off + (k * 6 + 5), none⟩ = some (.int .i64 (nthT qs k).E) := by
  obtain ⟨⟨⟨A, c, rfl, hr⟩, hl, he⟩, hs⟩ := h
  obtain ⟨u0, h1, h2⟩ := he (k * 6 + 0) _ (contsP_get 0 qs k 0 hk (by omega))
  obtain ⟨u1, g1, g2⟩ := he (k * 6 + 1) _ (contsP_get 0 qs k 1 hk (by omega))
  obtain ⟨u2, k1, k2⟩ := he (k * 6 + 2) _ (contsP_get 0 qs k 2 hk (by omega))
  obtain ⟨s1, s2, s3⟩ := hs k hk
  obtain ⟨b, off, rfl, hb, hc⟩ := hr (k * 6 + 0) u0 h1
  have more : ∀ i x, us[i]? = some x → w.cell? ⟨b, off + i, none⟩ = some x := by
    intro i x hx
    obtain ⟨b', off', e, _, hc'⟩ := hr i x hx
    cases e
    exact hc'
  exact ⟨b, off, c, u0, u1, u2, rfl, hb, ⟨hc, more _ _ g1, more _ _ k1⟩, ⟨h2, g2, k2⟩, more _ _ s1, more _ _ s2, more _ _ s3⟩
/-- one part put behind; its lists lie in blocks above those of the others -/
theorem OwnPs.push {mid : Nat} (h : OwnPs w lo mid tt t v qs us) {v' u0 u1 u2 : Value} {q : Prt} (hmid : mid ≤ hi) (hhi : hi ≤ w.heap.size) (hlm : lo ≤ mid) (ho : OwnPart w mid hi t u0 u1 u2 q)
    (hrow : w'.ownsRow lo tt 6 v' (qs.length + 1) (us ++ pcells u0 u1 u2 q)) (hg : w.grownBy w' v.ownBlock) (hv : v'.ownBlock = v.ownBlock ∨ v'.ownBlock = some w.heap.size) : OwnPs w' lo w'.heap.size tt t v' (qs ++ [q]) (us ++ pcells u0 u1 u2 q) := by
  have hl := h.len
  have new3 : ∀ (j : Nat) (x : Value), (pcells u0 u1 u2 q)[j]? = some x → (j < 3 ∧ Own w mid hi t .i64 x (three q j)) ∨ (3 ≤ j ∧ j < 6 ∧ x.ownBlock = none) := by
    intro j x hx
    match j with
    | 0 => simp [pcells] at hx; subst hx; exact .inl ⟨by omega, ho.o0⟩
    | 1 => simp [pcells] at hx; subst hx; exact .inl ⟨by omega, ho.o1⟩
    | 2 => simp [pcells] at hx; subst hx; exact .inl ⟨by omega, ho.o2⟩
    | 3 => simp [pcells] at hx; subst hx; exact .inr ⟨by omega, by omega, rfl⟩
    | 4 => simp [pcells] at hx; subst hx; exact .inr ⟨by omega, by omega, rfl⟩
    | 5 => simp [pcells] at hx; subst hx; exact .inr ⟨by omega, by omega, rfl⟩
    | j + 6 => simp [pcells] at hx
  have apartU : ∀ (i j : Nat) (x y : Value), us[i]? = some x → (pcells u0 u1 u2 q)[j]? = some y → x.ownBlock = none ∨ x.ownBlock ≠ y.ownBlock := by
    intro i j x y hx hy
    by_cases hn : x.ownBlock = none
    · exact .inl hn
    · refine .inr fun e => ?_
      obtain ⟨g, hg⟩ := Option.ne_none_iff_exists'.1 hn
      rcases new3 j y hy with ⟨_, o⟩ | ⟨_, _, o⟩
      · have h1 := h.rows.lts i x g hx hg
        have h2 := o.lt g (by rw [← e, hg])
        omega
      · rw [o] at e; exact hn e
  have uv : ∀ (j : Nat) (y : Value), (pcells u0 u1 u2 q)[j]? = some y → y.ownBlock = none ∨ y.ownBlock ≠ v.ownBlock := by
    intro j y hy
    by_cases hn : y.ownBlock = none
    · exact .inl hn
    · refine .inr fun e => ?_
      obtain ⟨g, hg⟩ := Option.ne_none_iff_exists'.1 hn
      rcases new3 j y hy with ⟨_, o⟩ | ⟨_, _, o⟩
      · have h1 := o.lt g hg
        have h2 := h.rows.vlt g (by rw [← e, hg])
        omega
      · exact hn o
  have both : ∀ (i j : Nat) (x y : Value), i < j → (pcells u0 u1 u2 q)[i]? = some x → (pcells u0 u1 u2 q)[j]? = some y → x.ownBlock = none ∨ x.ownBlock ≠ y.ownBlock := by
    intro i j x y hij hx hy
    rcases new3 j y hy with ⟨hj, _⟩ | ⟨_, _, o⟩
    · match i, j with
      | 0, 1 => simp [pcells] at hx hy; subst hx; subst hy; exact ho.d01
      | 0, 2 => simp [pcells] at hx hy; subst hx; subst hy; exact ho.d02
      | 1, 2 => simp [pcells] at hx hy; subst hx; subst hy; exact ho.d12
      | 0, 0 => omega
      | 1, 0 => omega
      | 1, 1 => omega
      | i + 2, 0 => omega
      | i + 2, 1 => omega
      | i + 2, 2 => omega
      | i, j + 3 => omega
    · by_cases hn : x.ownBlock = none
      · exact .inl hn
      · exact .inr (by rw [o]; exact hn)
  have := (h.rows.more (Nat.le_refl _) hmid).push (m := 1) (news := pcells u0 u1 u2 q) (cn := contsP t [q]) hrow hg hv hhi
    (fun k c hc => by
      obtain ⟨j, i, hj, hi3, rfl, rfl⟩ := contsP_some t [q] k c hc
      have e : j = 0 := by simp at hj; exact hj
      subst e
      have z : nthT [q] 0 = q := rfl
      rw [z, Nat.zero_mul, Nat.zero_add]
      match i with
      | 0 => exact ⟨u0, rfl, ho.o0.more hlm (Nat.le_refl _)⟩
      | 1 => exact ⟨u1, rfl, ho.o1.more hlm (Nat.le_refl _)⟩
      | 2 => exact ⟨u2, rfl, ho.o2.more hlm (Nat.le_refl _)⟩
      | i + 3 => omega)
    (fun k x hx hc => by
      rcases new3 k x hx with ⟨h3, _⟩ | ⟨_, _, h3⟩
      · rw [show k = 0 * 6 + k by omega, contsP_get t [q] 0 k (by simp) h3] at hc; cases hc
      · exact h3)
    both apartU uv
  have e : (fun k => if k < us.length then contsP t qs k else contsP t [q] (k - us.length)) = contsP t (qs ++ [q]) := by
    rw [hl]; exact contsP_app t qs q
  rw [e] at this
  refine ⟨?_, h.sc.app hl u0 u1 u2 q⟩
  rw [List.length_append]
  exact this
end
end Go.Proofs.YtcfnhjpmihngdaaGreat
