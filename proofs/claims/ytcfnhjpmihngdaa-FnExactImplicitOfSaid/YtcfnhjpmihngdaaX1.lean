/- Chapter 7: rows of pairs, parts in memory. No program is named here. -/
import Derived.Test.YtcfnhjpmihngdaaX0
import Derived.Test.YtcfnhjpmihngdaaO2
namespace Go.Proofs.Ytcfnhjpmihngdaa
open Go.RowKit

def prs (l : List Pr) : List Value := l.flatMap fun x => [.int .i64 x.1, .int .i64 x.2]
theorem prs_nil : prs [] = [] := rfl
theorem prs_cons (x : Pr) (l : List Pr) : prs (x :: l) = .int .i64 x.1 :: .int .i64 x.2 :: prs l := rfl
theorem prs_len : ∀ l : List Pr, (prs l).length = l.length * 2
  | [] => rfl
  | x :: l => by rw [prs_cons, List.length_cons, List.length_cons, prs_len l]; simp; omega
theorem prs_app (l : List Pr) (x : Pr) : prs (l ++ [x]) = prs l ++ [.int .i64 x.1, .int .i64 x.2] := by simp [prs]
theorem prs_get : ∀ (l : List Pr) (k : Nat), k < l.length → (prs l)[k * 2]? = some (.int .i64 (nthP l k).1) ∧ (prs l)[k * 2 + 1]? = some (.int .i64 (nthP l k).2)
  | [], k, h => by simp at h
  | x :: l, 0, _ => ⟨rfl, rfl⟩
  | x :: l, k + 1, h => by
    have ih := prs_get l k (by simpa using h)
    rw [prs_cons, show (k + 1) * 2 = (k * 2) + 1 + 1 by omega]
    have e : nthP (x :: l) (k + 1) = nthP l k := by simp [nthP]
    rw [e]
    exact ⟨by simpa using ih.1, by simpa using ih.2⟩
theorem prs_take : ∀ (l : List Pr) (k : Nat), (prs l).take (k * 2) = prs (l.take k)
  | [], k => by simp [prs]
  | x :: l, 0 => rfl
  | x :: l, k + 1 => by
    rw [prs_cons, show (k + 1) * 2 = (k * 2) + 1 + 1 by omega, List.take_succ_cons, List.take_succ_cons, List.take_succ_cons, prs_cons, prs_take l k]
theorem prs_one (l : List Pr) : ∀ u ∈ prs l, u.oneCell' = true := by
  intro u hu
  simp only [prs, List.mem_flatMap, List.mem_cons, List.not_mem_nil, or_false] at hu
  obtain ⟨x, _, rfl | rfl⟩ := hu <;> rfl
/-- a row, cut short -/
theorem own_take {w : World} {base n m cap g size : Nat} {e : TypeId} {xs : List Value} (h : w.ownsRow base e size (.slice (some ⟨g, 0, none⟩) n cap) n xs) (hm : m ≤ n) : w.ownsRow base e size (.slice (some ⟨g, 0, none⟩) m cap) m (xs.take (m * size)) := by
  obtain ⟨h1, h2⟩ := h
  rcases h2 with ⟨h0, _⟩ | ⟨g', cap', cur, hv, hg, hh, hn, hcap, hsz, ht⟩
  · cases h0
  · cases hv
    have hle : m * size ≤ n * size := Nat.mul_le_mul_right _ hm
    refine ⟨by rw [List.length_take, h1]; omega, .inr ⟨g, cap, cur, rfl, hg, hh, by omega, hcap, hsz, ?_⟩⟩
    rw [← ht, List.take_take, Nat.min_eq_left hle]

/-- v is a slice of the call's own that holds these pairs -/
def OwnPr (w : World) (lo hi : Nat) (t : TypeId) (v : Value) (l : List Pr) : Prop := w.ownsRow lo t 2 v l.length (prs l) ∧ ∀ g, v.ownBlock = some g → g < hi
/-- v is a slice that reads as these pairs -/
def SeesPr (w : World) (B : Nat) (v : Value) (l : List Pr) : Prop := ∃ A c, v = .slice A l.length c ∧ Rd w B A (prs l)
section
variable {w w' : World} {lo hi lo' hi' B C : Nat} {t : TypeId} {v u : Value} {l : List Pr}
theorem OwnPr.form (h : OwnPr w lo hi t v l) : ∃ A c, v = .slice A l.length c := own_form h.1
theorem OwnPr.lt (h : OwnPr w lo hi t v l) : ∀ g, v.ownBlock = some g → lo ≤ g ∧ g < hi := fun g hg => ⟨(h.1.lt g hg).1, h.2 g hg⟩
theorem OwnPr.mk_ {n : Nat} (h : w.ownsRow lo t 2 v n (prs l)) (hn : n = l.length) : OwnPr w lo w.heap.size t v l := by
  subst hn
  exact ⟨h, fun g hg => (h.lt g hg).2⟩
theorem OwnPr.nil (w : World) (lo hi : Nat) (t : TypeId) : OwnPr w lo hi t (.slice none 0 0) [] := ⟨World.ownsRow_nil _ _ _ _, by simp [Value.ownBlock]⟩
theorem OwnPr.keep (h : OwnPr w lo hi t v l) (hk : ∀ k, k < w.heap.size → lo ≤ k → k < hi → w'.heap[k]? = w.heap[k]?) : OwnPr w' lo hi t v l := by
  refine ⟨⟨h.1.1, ?_⟩, h.2⟩
  rcases h.1.2 with hn | ⟨g, cap, cur, rfl, hb, hg, rest⟩
  · exact .inl hn
  · exact .inr ⟨g, cap, cur, rfl, hb, by rw [hk g (Array.getElem?_eq_some_iff.1 hg).1 hb (h.2 g rfl)]; exact hg, rest⟩
theorem OwnPr.below (h : OwnPr w lo hi t v l) (hb : Below B w w') (hB : hi ≤ B) : OwnPr w' lo hi t v l := h.keep fun k _ _ hk => hb.block k (Nat.lt_of_lt_of_le hk hB)
theorem OwnPr.out (h : OwnPr w lo hi t v l) (hb : Out lo' hi' w w') (hd : hi ≤ lo' ∨ hi' ≤ lo) : OwnPr w' lo hi t v l := h.keep fun k hk h1 h2 => hb.block k hk (by omega)
theorem OwnPr.grown (h : OwnPr w lo hi t v l) (hb : w.grownBy w' u.ownBlock) (hd : v.ownBlock = none ∨ v.ownBlock ≠ u.ownBlock) : OwnPr w' lo hi t v l := ⟨h.1.kept hb hd, h.2⟩
theorem OwnPr.more (h : OwnPr w lo hi t v l) (h1 : lo' ≤ lo) (h2 : hi ≤ hi') : OwnPr w lo' hi' t v l := ⟨own_more h.1 h1, fun g hg => Nat.lt_of_lt_of_le (h.2 g hg) h2⟩
theorem OwnPr.alloc (h : OwnPr w lo hi t v l) (o : Obj) : OwnPr (w.alloc o) lo hi t v l := h.keep fun k hk _ _ => Below.heap_alloc w o k hk
theorem OwnPr.set (h : OwnPr w lo hi t v l) (p : Addr) (x : Value) (hp : p.block < lo ∨ hi ≤ p.block) : OwnPr (w.setCell p x) lo hi t v l := h.keep fun k _ h1 h2 => heap_setCell_other w p k x (by omega)
theorem OwnPr.sees (h : OwnPr w lo hi t v l) : SeesPr w hi v l := by
  obtain ⟨A, c, rfl⟩ := h.form
  refine ⟨A, c, rfl, ?_⟩
  intro k x hx
  rcases h.1.2 with ⟨hv, hn⟩ | ⟨g, cap, cur, hv, _, hg, _, _, _, _⟩
  · injection hv with _ h2
    have : l = [] := List.eq_nil_of_length_eq_zero hn
    subst this
    simp [prs] at hx
  · have hA : A = some ⟨g, 0, none⟩ := by injection hv
    subst hA
    have hc := h.1.cells (g := g) rfl k x hx
    refine ⟨g, 0, rfl, h.2 g rfl, ?_⟩
    have e : (⟨g, 0, none⟩ : Addr).add k = ⟨g, 0 + k, none⟩ := by unfold Addr.add; split <;> simp_all
    rw [← e]; exact hc
theorem SeesPr.keep (h : SeesPr w B v l) (hk : ∀ k, k < B → w'.heap[k]? = w.heap[k]?) : SeesPr w' B v l := by
  obtain ⟨A, c, rfl, hr⟩ := h
  exact ⟨A, c, rfl, hr.keep fun p hp => by unfold World.cell?; rw [hk p.block hp]⟩
theorem SeesPr.below (h : SeesPr w B v l) (hb : Below C w w') (hB : B ≤ C) : SeesPr w' B v l := h.keep fun k hk => hb.block k (Nat.lt_of_lt_of_le hk hB)
theorem SeesPr.out (h : SeesPr w B v l) (hb : Out lo hi w w') (hB : B ≤ lo) (hw : B ≤ w.heap.size) : SeesPr w' B v l := h.keep fun k hk => hb.block k (by omega) (by omega)
theorem SeesPr.more {B' : Nat} (h : SeesPr w B v l) (hB : B ≤ B') : SeesPr w B' v l := by obtain ⟨A, c, rfl, hr⟩ := h; exact ⟨A, c, rfl, hr.more hB⟩
theorem SeesPr.at_ (h : SeesPr w B v l) (k : Nat) (hk : k < l.length) : ∃ b off c, v = .slice (some ⟨b, off, none⟩) l.length c ∧ b < B ∧ w.cell? ⟨b, off + k * 2, none⟩ = some (.int .i64 (nthP l k).1) ∧ w.cell? ⟨b, off + k * 2 + 1, none⟩ = some (.int .i64 (nthP l k).2) := by
  obtain ⟨A, c, rfl, hr⟩ := h
  obtain ⟨g1, g2⟩ := prs_get l k hk
  obtain ⟨b, off, rfl, hb, hc⟩ := hr _ _ g1
  obtain ⟨b', off', e, _, hc'⟩ := hr _ _ g2
  cases e
  exact ⟨b, off, c, rfl, hb, hc, hc'⟩
theorem ownPr_at {n : Nat} (h : w.ownsRow lo t 2 v n (prs l)) (hn : n = l.length) (k : Nat) (hk : k < l.length) : ∃ g c, v = .slice (some ⟨g, 0, none⟩) n c ∧ lo ≤ g ∧ w.cell? ⟨g, k * 2, none⟩ = some (.int .i64 (nthP l k).1) ∧ w.cell? ⟨g, k * 2 + 1, none⟩ = some (.int .i64 (nthP l k).2) := by
  subst hn
  obtain ⟨g1, g2⟩ := prs_get l k hk
  rcases h.2 with ⟨_, h0⟩ | ⟨g, cap, cur, hv, hb, _⟩
  · omega
  · subst hv
    have hl := prs_len l
    exact ⟨g, cap, rfl, hb, (h.cellAt (k * 2) (by omega)).trans g1, (h.cellAt (k * 2 + 1) (by omega)).trans g2⟩
end

/-- a part behind a pointer, all of it only read -/
structure PtR (w : World) (T : TypeId) (B g : Nat) (v0 v1 v2 : Value) (p : Prt) : Prop where
  blk : Blk w g T #[v0, v1, v2, .int .i64 p.L, .int .i64 p.S, .int .i64 p.E]
  lt : g < B
  s0 : Sees w B .i64 v0 p.T
  s1 : Sees w B .i64 v1 p.F
  s2 : Sees w B .i64 v2 p.N
theorem PtR.below {w w' : World} {T : TypeId} {B C g : Nat} {v0 v1 v2 : Value} {p : Prt} (h : PtR w T B g v0 v1 v2 p) (hb : Below C w w') (hC : B ≤ C) : PtR w' T B g v0 v1 v2 p :=
  ⟨h.blk.below hb (by have := h.lt; omega), h.lt, h.s0.below hb hC, h.s1.below hb hC, h.s2.below hb hC⟩
theorem PtR.drew {w : World} {T : TypeId} {B g : Nat} {v0 v1 v2 : Value} {p : Prt} (h : PtR w T B g v0 v1 v2 p) (n : Nat) : PtR (w.drewN n) T B g v0 v1 v2 p := ⟨h.blk, h.lt, h.s0, h.s1, h.s2⟩
theorem sees_up {w : World} {B B' : Nat} {kd : IntKind} {v : Value} {zs : List Int} (h : Sees w B kd v zs) (hB : B ≤ B') : Sees w B' kd v zs := by obtain ⟨A, c, e, r⟩ := h; exact ⟨A, c, e, r.more hB⟩
theorem PtR.new (w : World) (T : TypeId) (B : Nat) (v0 v1 v2 : Value) (p : Prt) (hB : B ≤ w.heap.size) (h0 : Sees w B .i64 v0 p.T) (h1 : Sees w B .i64 v1 p.F) (h2 : Sees w B .i64 v2 p.N) :
    PtR (w.alloc (.cells #[v0, v1, v2, .int .i64 p.L, .int .i64 p.S, .int .i64 p.E] T)) T (w.heap.size + 1) w.heap.size v0 v1 v2 p :=
  ⟨Blk.new w _ _, by omega, sees_up (h0.alloc hB _) (by omega), sees_up (h1.alloc hB _) (by omega), sees_up (h2.alloc hB _) (by omega)⟩
end Go.Proofs.Ytcfnhjpmihngdaa
