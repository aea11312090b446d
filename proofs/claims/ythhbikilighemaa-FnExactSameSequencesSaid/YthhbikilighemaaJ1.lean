/- An argument that is a slice of sequences, opened. No program is named here. -/
import Derived.Test.YthhbikilighemaaB1
import Derived.Test.YthhbikilighemaaO6
import Derived.Deep.Slices
import Derived.Deep.Fields
namespace Go.Proofs.Ythhbikilighemaa
open Go.ChangeShapes Go.WideShapes Go.ChangeAt Go.RowKit Go.Deep

section
variable {H : Type} {enc : TypeId × Value → H} {P : Program} {W : World}
/-- what is read as a slice of numbers reads so -/
theorem sees_of_trod {t e : TypeId} {kd : IntKind} {n : Nat} {u : Value} {y : DataW H × List MemPlace} (ht : P.underlying t = some (.slice e)) (he : P.underlying e = some (.int kd)) (hc : P.cellsOf e = 1)
    (h : DataW.trod enc P W 0 (fun _ => true) true n t [u] = some y) (hlt : ∀ x ∈ y.2, x.block < W.heap.size) : ∃ zs : List Int, Sees W W.heap.size kd u zs ∧ zs.length ≤ maxLen := by
  rcases open_ints ht he hc h with ⟨hcs, hx⟩ | ⟨a, len', cap', zs, hcs, _, hl, hm, hz, hx, hcell, hwz⟩
  · simp at hcs
    subst hcs
    exact ⟨[], ⟨none, 0, rfl, Rd.nil _ _ _⟩, by simp⟩
  · simp at hcs
    subst hcs
    subst hx
    simp only [if_true] at hz
    refine ⟨zs.take len', ⟨some a, cap', by simp; omega, ?_⟩, by simp; omega⟩
    intro k u hu
    have hk : k < (zs.take len').length := by
      have := (List.getElem?_eq_some_iff.1 hu).1
      simpa [nums] using this
    have hk' : k < zs.length := by simp at hk; omega
    obtain ⟨b, off, spot⟩ := a
    have hspot : spot = none := by simpa [Addr.add] using World.cell?_spot (hcell 0 (by omega))
    subst hspot
    rw [nums_get _ _ _ hk] at hu
    injection hu with hu
    refine ⟨b, off, rfl, hlt (.cell b off) (MemPlace.mem_row.2 ⟨0, by omega, by simp⟩), ?_⟩
    rw [← add_plain, hcell k hk', ← hu]
    have : k < len' := by simp at hk; omega
    simp [nth, this, List.getD]

def cellsQ (U : Nat → Value) (Q : Nat → Sq) (n : Nat) : List Value := (List.range n).flatMap fun i => qcells (U i) (Q i)
theorem cellsQ_succ (U : Nat → Value) (Q : Nat → Sq) (n : Nat) : cellsQ U Q (n + 1) = cellsQ U Q n ++ qcells (U n) (Q n) := by simp [cellsQ, List.range_succ]
theorem cellsQ_len (U : Nat → Value) (Q : Nat → Sq) : ∀ n, (cellsQ U Q n).length = n * 4
  | 0 => rfl
  | n + 1 => by rw [cellsQ_succ, List.length_append, cellsQ_len U Q n]; simp [qcells]; omega
theorem cellsQ_at (U : Nat → Value) (Q : Nat → Sq) : ∀ (n i j : Nat), i < n → j < 4 → (cellsQ U Q n)[i * 4 + j]? = (qcells (U i) (Q i))[j]?
  | 0, i, j, h, _ => by omega
  | n + 1, i, j, h, hj => by
    have hl := cellsQ_len U Q n
    rw [cellsQ_succ]
    by_cases e : i = n
    · subst e
      rw [List.getElem?_append_right (by omega), hl]
      congr 1
      omega
    · rw [List.getElem?_append_left (by omega)]
      exact cellsQ_at U Q n i j (by omega) hj

/-- one element -/
structure Elem (W : World) (a : Addr) (i : Nat) (u : Value) (q : Sq) : Prop where
  c0 : W.cell? (a.add (i * 4)) = some u
  c1 : W.cell? (a.add (i * 4 + 1)) = some (.int .i64 q.level)
  c2 : W.cell? (a.add (i * 4 + 2)) = some (.int .i64 q.sos)
  c3 : W.cell? (a.add (i * 4 + 3)) = some (.int .i64 q.eos)
  reads : Sees W W.heap.size .i64 u q.places
  bound : q.places.length ≤ maxLen
instance : Inhabited (Value × Sq) := ⟨(.slice none 0 0, ⟨[], 0, 0, 0⟩)⟩

theorem open_seqs {r : Reach} {base : Nat} {t e ts ti : TypeId} {f0 f1 f2 f3 : Field} {v : Value} {d : DataW H} {p : List MemPlace}
    (ht : P.underlying t = some (.slice e)) (he : P.underlying e = some (.struct #[f0, f1, f2, f3])) (hone : oneCellFields P #[f0, f1, f2, f3] = true) (hC : P.cellsOf e = 4)
    (h0 : f0.type = ts) (h1 : f1.type = ti) (h2 : f2.type = ti) (h3 : f3.type = ti) (hs : P.underlying ts = some (.slice ti)) (hi : P.underlying ti = some (.int .i64)) (hci : P.cellsOf ti = 1)
    (hv : Value.okWide P W r base t v) (h : DataW.Trod enc P W 0 (fun _ => true) true t v d p) (hlt : ∀ x ∈ p, x.block < W.heap.size) :
    ∃ (A : Option Addr) (qs : List Sq) (c : Nat) (us : List Value), v = .slice A qs.length c ∧ SeesQ W W.heap.size v qs us ∧ qs.length ≤ c ∧ c ≤ maxLen ∧ ∀ j, j < qs.length → (nthQ qs j).places.length ≤ maxLen := by
  obtain ⟨a0, len0, cap0, rfl⟩ := okWide_slice ht hv
  obtain ⟨fuel, hf⟩ := h
  rcases open_slice ht hf with ⟨hcs, hx⟩ | ⟨a, len, cap, m, n, D, Pl, hcs, hb, hl, hm, hmm, hx, hel⟩
  · simp [Value.cells] at hcs
    obtain ⟨rfl, rfl, rfl⟩ := hcs
    refine ⟨none, [], 0, [], rfl, ⟨⟨⟨none, 0, rfl, Rd.nil _ _ _⟩, rfl, fun k c hc => ?_⟩, fun j hj => by simp at hj⟩, by simp, by unfold maxLen; omega, by simp⟩
    obtain ⟨j, hj, _⟩ := contsQ_some _ _ _ _ hc
    simp at hj
  · simp [Value.cells] at hcs
    obtain ⟨rfl, rfl, rfl⟩ := hcs
    simp only [if_true] at hmm
    subst hmm
    simp only [Prod.mk.injEq] at hx
    obtain ⟨rfl, rfl⟩ := hx
    have each : ∀ i, i < len0 → ∃ x : Value × Sq, Elem W a i x.1 x.2 := by
      intro i hil
      obtain ⟨cs', hc, ht'⟩ := hel i (by omega)
      rw [hC] at hc
      obtain ⟨_, hcl, hat⟩ := World.cells?_some hc
      obtain ⟨ys, n', _, hy, _, hyl, hfs⟩ := DataW.trod_struct he ht'
      simp only [Prod.mk.injEq] at hy
      obtain ⟨o0, k0⟩ := hone_of hone 0 f0 rfl
      obtain ⟨o1, k1⟩ := hone_of hone 1 f1 rfl
      obtain ⟨o2, k2⟩ := hone_of hone 2 f2 rfl
      obtain ⟨o3, k3⟩ := hone_of hone 3 f3 rfl
      have ph : ∀ y ∈ ys, ∀ x ∈ y.2, x.block < W.heap.size := by
        intro y hys x hxy
        refine hlt x (List.mem_append.2 (.inr (List.mem_flatMap.2 ⟨i, List.mem_range.2 (by omega), ?_⟩)))
        rw [hy.2]
        exact List.mem_flatMap.2 ⟨y, hys, hxy⟩
      match cs', hcl, ys, hyl with
      | [c0, c1, c2, c3], _, [y0, y1, y2, y3], _ =>
        have g0 := hfs 0 f0 rfl
        have g1 := hfs 1 f1 rfl
        have g2 := hfs 2 f2 rfl
        have g3 := hfs 3 f3 rfl
        rw [o0, k0, h0] at g0
        simp at g0
        rw [o1, k1, h1] at g1
        simp at g1
        rw [o2, k2, h2] at g2
        simp at g2
        rw [o3, k3, h3] at g3
        simp at g3
        obtain ⟨zs, hz, hzb⟩ := sees_of_trod hs hi hci g0 (ph y0 (by simp))
        obtain ⟨n1, e1, _⟩ := DataW.trod_int hi g1
        obtain ⟨n2, e2, _⟩ := DataW.trod_int hi g2
        obtain ⟨n3, e3, _⟩ := DataW.trod_int hi g3
        simp at e1 e2 e3
        subst e1; subst e2; subst e3
        have a0 := hat 0 (by omega)
        have a1 := hat 1 (by omega)
        have a2 := hat 2 (by omega)
        have a3 := hat 3 (by omega)
        rw [add_add] at a0 a1 a2 a3
        exact ⟨(c0, ⟨zs, n1, n2, n3⟩), by simpa using a0, by simpa using a1, by simpa using a2, by simpa using a3, hz, hzb⟩
    obtain ⟨F, hF⟩ := choose_lt each
    have ql : ((List.range len0).map fun i => (F i).2).length = len0 := by simp
    have qn : ∀ j, j < len0 → nthQ ((List.range len0).map fun i => (F i).2) j = (F j).2 := by
      intro j hj
      simp [nthQ, hj]
    refine ⟨some a, (List.range len0).map fun i => (F i).2, m, cellsQ (fun i => (F i).1) (fun i => (F i).2) len0, by rw [ql], ⟨⟨⟨some a, m, by rw [ql], ?_⟩, by rw [ql]; exact cellsQ_len _ _ _, ?_⟩, ?_⟩, by rw [ql]; exact hl, hm, fun j hj => by rw [ql] at hj; rw [qn j hj]; exact (hF j hj).bound⟩
    · intro k u hu
      have hk : k < len0 * 4 := by have := (List.getElem?_eq_some_iff.1 hu).1; rwa [cellsQ_len] at this
      have hi4 : k / 4 < len0 := by omega
      have E := hF (k / 4) hi4
      obtain ⟨b, off, spot⟩ := a
      have hspot : spot = none := by
        have := World.cell?_spot (hF 0 (by omega)).c0
        simpa [Addr.add] using this
      subst hspot
      refine ⟨b, off, rfl, hlt (.cell b off) (List.mem_append.2 (.inl (MemPlace.mem_row.2 ⟨0, by rw [hC]; omega, by simp⟩))), ?_⟩
      have hc := cellsQ_at (fun i => (F i).1) (fun i => (F i).2) len0 (k / 4) (k % 4) hi4 (by omega)
      rw [show k / 4 * 4 + k % 4 = k by omega, hu] at hc
      rw [← add_plain]
      have hj : k % 4 = 0 ∨ k % 4 = 1 ∨ k % 4 = 2 ∨ k % 4 = 3 := by omega
      rcases hj with hj | hj | hj | hj
      · rw [hj] at hc
        simp [qcells] at hc
        have := E.c0
        rw [show k / 4 * 4 = k by omega] at this
        rw [this, hc]
      · rw [hj] at hc
        simp [qcells] at hc
        have := E.c1
        rw [show k / 4 * 4 + 1 = k by omega] at this
        rw [this, hc]
      · rw [hj] at hc
        simp [qcells] at hc
        have := E.c2
        rw [show k / 4 * 4 + 2 = k by omega] at this
        rw [this, hc]
      · rw [hj] at hc
        simp [qcells] at hc
        have := E.c3
        rw [show k / 4 * 4 + 3 = k by omega] at this
        rw [this, hc]
    · intro k c hc
      obtain ⟨j, hj, rfl, rfl⟩ := contsQ_some _ _ _ _ hc
      rw [ql] at hj
      refine ⟨(F j).1, ?_, ?_⟩
      · have := cellsQ_at (fun i => (F i).1) (fun i => (F i).2) len0 j 0 hj (by omega)
        simpa [qcells] using this
      · show Sees W W.heap.size .i64 (F j).1 (nthQ _ j).places
        rw [qn j hj]
        exact (hF j hj).reads
    · intro j hj
      rw [ql] at hj
      rw [qn j hj]
      have c1 := cellsQ_at (fun i => (F i).1) (fun i => (F i).2) len0 j 1 hj (by omega)
      have c2 := cellsQ_at (fun i => (F i).1) (fun i => (F i).2) len0 j 2 hj (by omega)
      have c3 := cellsQ_at (fun i => (F i).1) (fun i => (F i).2) len0 j 3 hj (by omega)
      exact ⟨by simpa [qcells] using c1, by simpa [qcells] using c2, by simpa [qcells] using c3⟩
end
end Go.Proofs.Ythhbikilighemaa
