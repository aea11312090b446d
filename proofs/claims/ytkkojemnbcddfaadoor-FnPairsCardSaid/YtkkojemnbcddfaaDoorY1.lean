/- Chapter 7: an argument that is a part, opened. No program is named here. -/
import Derived.Test.YtkkojemnbcddfaaDoorB1
import Derived.Test.YtkkojemnbcddfaaDoorX1
import Derived.Deep.Slices
import Derived.Deep.Fields
namespace Go.Proofs.YtkkojemnbcddfaaDoor
open Go.ChangeShapes Go.WideShapes Go.ChangeAt Go.RowKit Go.Deep

section
variable {H : Type} {enc : TypeId × Value → H} {P : Program} {W : World}
theorem ints_of_trod {t e : TypeId} {kd : IntKind} {n : Nat} {u : Value} {y : DataW H × List MemPlace} (ht : P.underlying t = some (.slice e)) (he : P.underlying e = some (.int kd)) (hc : P.cellsOf e = 1)
    (h : DataW.trod enc P W 0 (fun _ => true) true n t [u] = some y) (hlt : ∀ x ∈ y.2, x.block < W.heap.size) : ∃ zs : List Int, Sees W W.heap.size kd u zs ∧ zs.length ≤ maxLen ∧ ∀ z ∈ zs, (Lit.int kd z).wf = true := by
  rcases open_ints ht he hc h with ⟨hcs, hx⟩ | ⟨a, len', cap', zs, hcs, _, hl, hm, hz, hx, hcell, hwz⟩
  · simp at hcs
    subst hcs
    exact ⟨[], ⟨none, 0, rfl, Rd.nil _ _ _⟩, by simp, by simp⟩
  · simp at hcs
    subst hcs
    subst hx
    simp only [if_true] at hz
    refine ⟨zs.take len', ⟨some a, cap', by simp; omega, ?_⟩, by simp; omega, fun z hz => hwz z (List.mem_of_mem_take hz)⟩
    intro k u hu
    have hk : k < (zs.take len').length := by
      have := (List.getElem?_eq_some_iff.1 hu).1
      simpa [nums] using this
    have hk' : k < zs.length := by simp at hk; omega
    obtain ⟨b, off, spot⟩ := a
    have hspot : spot = none := by simpa [Addr.add] using World.cell?_spot (hcell 0 (by omega))
    subst hspot
    rw [nums_get _ _ _ hk] at hu
    injection hu with hu
    refine ⟨b, off, rfl, hlt (.cell b off) (MemPlace.mem_row.2 ⟨0, by omega, by simp⟩), ?_⟩
    rw [← add_plain, hcell k hk', ← hu]
    have : k < len' := by simp at hk; omega
    simp [nth, this, List.getD]

/-- what is known of a part that was handed in -/
structure PartIn (W : World) (v0 v1 v2 : Value) (p : Prt) : Prop where
  s0 : Sees W W.heap.size .i64 v0 p.T
  s1 : Sees W W.heap.size .i64 v1 p.F
  s2 : Sees W W.heap.size .i64 v2 p.N
  l0 : p.T.length ≤ maxLen
  l1 : p.F.length ≤ maxLen
  l2 : p.N.length ≤ maxLen
  w0 : ∀ z ∈ p.T, (Lit.int .i64 z).wf = true
  w1 : ∀ z ∈ p.F, (Lit.int .i64 z).wf = true
  w2 : ∀ z ∈ p.N, (Lit.int .i64 z).wf = true
  wL : (Lit.int .i64 p.L).wf = true
  wS : (Lit.int .i64 p.S).wf = true
  wE : (Lit.int .i64 p.E).wf = true

theorem open_part {r : Reach} {base : Nat} {t ts ti : TypeId} {f0 f1 f2 f3 f4 f5 : Field} {v : Value} {d : DataW H} {p : List MemPlace}
    (ht : P.underlying t = some (.struct #[f0, f1, f2, f3, f4, f5])) (hone : oneCellFields P #[f0, f1, f2, f3, f4, f5] = true)
    (h0 : f0.type = ts) (h1 : f1.type = ts) (h2 : f2.type = ts) (h3 : f3.type = ti) (h4 : f4.type = ti) (h5 : f5.type = ti) (hs : P.underlying ts = some (.slice ti)) (hi : P.underlying ti = some (.int .i64)) (hci : P.cellsOf ti = 1) (hC : P.cellsOf t = 6)
    (hv : Value.okWide P W r base t v) (h : DataW.Trod enc P W 0 (fun _ => true) true t v d p) (hlt : ∀ x ∈ p, x.block < W.heap.size) :
    ∃ (v0 v1 v2 : Value) (q : Prt), v = .agg #[v0, v1, v2, .int .i64 q.L, .int .i64 q.S, .int .i64 q.E] ∧ PartIn W v0 v1 v2 q := by
  obtain ⟨cs, rfl, hcs⟩ := okWide_struct ht hv
  rw [hC] at hcs
  obtain ⟨fuel, hf⟩ := h
  have hf : DataW.trod enc P W 0 (fun _ => true) true fuel t cs.toList = some (d, p) := hf
  obtain ⟨ys, n', _, hy, _, hyl, hfs⟩ := DataW.trod_struct ht hf
  simp only [Prod.mk.injEq] at hy
  obtain ⟨o0, k0⟩ := hone_of hone 0 f0 rfl
  obtain ⟨o1, k1⟩ := hone_of hone 1 f1 rfl
  obtain ⟨o2, k2⟩ := hone_of hone 2 f2 rfl
  obtain ⟨o3, k3⟩ := hone_of hone 3 f3 rfl
  obtain ⟨o4, k4⟩ := hone_of hone 4 f4 rfl
  obtain ⟨o5, k5⟩ := hone_of hone 5 f5 rfl
  have ph : ∀ y ∈ ys, ∀ x ∈ y.2, x.block < W.heap.size := by
    intro y hys x hxy
    refine hlt x ?_
    rw [hy.2]
    exact List.mem_flatMap.2 ⟨y, hys, hxy⟩
  obtain ⟨cl⟩ := cs
  have hcl : cl.length = 6 := hcs
  match cl, hcl, ys, hyl with
  | [c0, c1, c2, c3, c4, c5], _, [y0, y1, y2, y3, y4, y5], _ =>
    have g0 := hfs 0 f0 rfl
    have g1 := hfs 1 f1 rfl
    have g2 := hfs 2 f2 rfl
    have g3 := hfs 3 f3 rfl
    have g4 := hfs 4 f4 rfl
    have g5 := hfs 5 f5 rfl
    rw [o0, k0, h0] at g0
    simp at g0
    rw [o1, k1, h1] at g1
    simp at g1
    rw [o2, k2, h2] at g2
    simp at g2
    rw [o3, k3, h3] at g3
    simp at g3
    rw [o4, k4, h4] at g4
    simp at g4
    rw [o5, k5, h5] at g5
    simp at g5
    obtain ⟨zT, hT, bT, wT⟩ := ints_of_trod hs hi hci g0 (ph y0 (by simp))
    obtain ⟨zF, hF, bF, wF⟩ := ints_of_trod hs hi hci g1 (ph y1 (by simp))
    obtain ⟨zN, hN, bN, wN⟩ := ints_of_trod hs hi hci g2 (ph y2 (by simp))
    obtain ⟨n3, e3, _, w3⟩ := DataW.trod_int hi g3
    obtain ⟨n4, e4, _, w4⟩ := DataW.trod_int hi g4
    obtain ⟨n5, e5, _, w5⟩ := DataW.trod_int hi g5
    simp at e3 e4 e5
    subst e3; subst e4; subst e5
    exact ⟨c0, c1, c2, ⟨zT, zF, zN, n3, n4, n5⟩, rfl, hT, hF, hN, bT, bF, bN, wT, wF, wN, w3, w4, w5⟩
end
end Go.Proofs.YtkkojemnbcddfaaDoor
