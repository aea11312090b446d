/- Rows of sequences: four cells each, the first a slice of numbers. No program is named here. -/
import Derived.Test.YthhbikilighemaaO5
import Derived.Test.YthhbikilighemaaK0
namespace Go.Proofs.Ythhbikilighemaa
open Go.RowKit

def contsQ (t : TypeId) (qs : List Sq) : Nat → Option Cont := fun k => if k % 4 = 0 then qs[k / 4]?.map fun q => ⟨t, .i64, q.places⟩ else none
/-- an element, closed to simp -/
def nthQ (qs : List Sq) (k : Nat) : Sq := qs[k]?.getD ⟨[], 0, 0, 0⟩
theorem nthQ_get (qs : List Sq) (k : Nat) (h : k < qs.length) : qs[k]? = some (nthQ qs k) := by simp [nthQ, List.getElem?_eq_getElem h]
theorem contsQ_get (t : TypeId) (qs : List Sq) (k : Nat) (h : k < qs.length) : contsQ t qs (k * 4) = some ⟨t, .i64, (nthQ qs k).places⟩ := by
  unfold contsQ
  rw [if_pos (by omega), Nat.mul_div_cancel _ (by omega), nthQ_get qs k h]; rfl
theorem contsQ_some (t : TypeId) (qs : List Sq) (k : Nat) (c : Cont) (h : contsQ t qs k = some c) : ∃ j, j < qs.length ∧ k = j * 4 ∧ c = ⟨t, .i64, (nthQ qs j).places⟩ := by
  unfold contsQ at h
  split at h
  · by_cases hj : k / 4 < qs.length
    · rw [nthQ_get qs _ hj] at h
      injection h with h
      exact ⟨k / 4, hj, by omega, h.symm⟩
    · rw [List.getElem?_eq_none (by omega)] at h; cases h
  · cases h
theorem contsQ_app (t : TypeId) (qs : List Sq) (q : Sq) : (fun k => if k < qs.length * 4 then contsQ t qs k else contsQ t [q] (k - qs.length * 4)) = contsQ t (qs ++ [q]) := by
  funext k
  by_cases hk : k < qs.length * 4
  · rw [if_pos hk]
    unfold contsQ
    rw [List.getElem?_append_left (by omega)]
  · rw [if_neg hk]
    unfold contsQ
    rw [List.getElem?_append_right (by omega), show (k - qs.length * 4) % 4 = k % 4 by omega, show (k - qs.length * 4) / 4 = k / 4 - qs.length by omega]
/-- the numbers in the cells -/
def Scal (us : List Value) (qs : List Sq) : Prop := ∀ j, j < qs.length → us[j * 4 + 1]? = some (.int .i64 (nthQ qs j).level) ∧ us[j * 4 + 2]? = some (.int .i64 (nthQ qs j).sos) ∧ us[j * 4 + 3]? = some (.int .i64 (nthQ qs j).eos)
theorem nthQ_left (qs : List Sq) (q : Sq) (j : Nat) (h : j < qs.length) : nthQ (qs ++ [q]) j = nthQ qs j := by unfold nthQ; rw [List.getElem?_append_left h]
theorem nthQ_right (qs : List Sq) (q : Sq) : nthQ (qs ++ [q]) qs.length = q := by simp [nthQ]
def qcells (u : Value) (q : Sq) : List Value := [u, .int .i64 q.level, .int .i64 q.sos, .int .i64 q.eos]
theorem Scal.app {us : List Value} {qs : List Sq} (h : Scal us qs) (hl : us.length = qs.length * 4) (u : Value) (q : Sq) : Scal (us ++ qcells u q) (qs ++ [q]) := by
  intro j hj
  by_cases hlt : j < qs.length
  · rw [List.getElem?_append_left (by omega), List.getElem?_append_left (by omega), List.getElem?_append_left (by omega), nthQ_left qs q j hlt]
    exact h j hlt
  · have e : j = qs.length := by simp at hj; omega
    subst e
    rw [nthQ_right, List.getElem?_append_right (by omega), List.getElem?_append_right (by omega), List.getElem?_append_right (by omega), hl, show qs.length * 4 + 1 - qs.length * 4 = 1 by omega, show qs.length * 4 + 2 - qs.length * 4 = 2 by omega, show qs.length * 4 + 3 - qs.length * 4 = 3 by omega]
    exact ⟨rfl, rfl, rfl⟩

/-- v holds the sequences qs, all of it the call's own -/
structure OwnQ (w : World) (lo hi : Nat) (tt t : TypeId) (v : Value) (qs : List Sq) (us : List Value) : Prop where
  rows : OwnC w lo hi tt 4 v qs.length us (contsQ t qs)
  sc : Scal us qs
structure SeesQ (w : World) (B : Nat) (v : Value) (qs : List Sq) (us : List Value) : Prop where
  rows : SeesC w B 4 v qs.length us (contsQ 0 qs)
  sc : Scal us qs
section
variable {w w' : World} {lo hi B : Nat} {tt t : TypeId} {v : Value} {qs : List Sq} {us : List Value}
theorem OwnQ.form (h : OwnQ w lo hi tt t v qs us) : ∃ A c, v = .slice A qs.length c := own_form h.rows.row
theorem OwnQ.len (h : OwnQ w lo hi tt t v qs us) : us.length = qs.length * 4 := h.rows.row.1
theorem OwnQ.nil (w : World) (lo hi : Nat) (tt t : TypeId) : OwnQ w lo hi tt t (.slice none 0 0) [] [] := ⟨by
  have := OwnC.nil w lo hi tt 4
  have e : contsQ t [] = fun _ => none := by funext k; unfold contsQ; split <;> simp
  rw [e]; exact this, fun j hj => by simp at hj⟩
theorem OwnQ.below {C : Nat} (h : OwnQ w lo hi tt t v qs us) (hb : Below C w w') (hB : hi ≤ C) : OwnQ w' lo hi tt t v qs us := ⟨h.rows.below hb hB, h.sc⟩
theorem OwnQ.alloc (h : OwnQ w lo hi tt t v qs us) (o : Obj) : OwnQ (w.alloc o) lo hi tt t v qs us := ⟨h.rows.alloc o, h.sc⟩
theorem OwnQ.drew (h : OwnQ w lo hi tt t v qs us) (n : Nat) : OwnQ (w.drewN n) lo hi tt t v qs us := ⟨h.rows.drew n, h.sc⟩
theorem OwnQ.set (h : OwnQ w lo hi tt t v qs us) (p : Addr) (u : Value) (hp : p.block < lo ∨ hi ≤ p.block) : OwnQ (w.setCell p u) lo hi tt t v qs us := ⟨h.rows.set p u hp, h.sc⟩
theorem OwnQ.out {lo' hi' : Nat} (h : OwnQ w lo hi tt t v qs us) (hb : Out lo' hi' w w') (hd : hi ≤ lo' ∨ hi' ≤ lo) : OwnQ w' lo hi tt t v qs us := ⟨h.rows.out hb hd, h.sc⟩
theorem OwnQ.more {lo' hi' : Nat} (h : OwnQ w lo hi tt t v qs us) (h1 : lo' ≤ lo) (h2 : hi ≤ hi') : OwnQ w lo' hi' tt t v qs us := ⟨h.rows.more h1 h2, h.sc⟩
theorem OwnQ.keep (h : OwnQ w lo hi tt t v qs us) (hk : ∀ k, k < w.heap.size → lo ≤ k → k < hi → w'.heap[k]? = w.heap[k]?) : OwnQ w' lo hi tt t v qs us := ⟨h.rows.keep hk, h.sc⟩
theorem OwnQ.sees (h : OwnQ w lo hi tt t v qs us) : SeesQ w hi v qs us := by
  obtain ⟨a, b, c⟩ := h.rows.sees
  refine ⟨⟨a, b, fun k c' hc => ?_⟩, h.sc⟩
  obtain ⟨j, hj, rfl, rfl⟩ := contsQ_some 0 qs k c' hc
  obtain ⟨u, h1, h2⟩ := c (j * 4) _ (contsQ_get t qs j hj)
  exact ⟨u, h1, h2⟩
theorem SeesQ.below {C : Nat} (h : SeesQ w B v qs us) (hb : Below C w w') (hB : B ≤ C) : SeesQ w' B v qs us := ⟨h.rows.below hb hB, h.sc⟩
theorem SeesQ.out (h : SeesQ w B v qs us) (hb : Out lo hi w w') (hB : B ≤ lo) (hw : B ≤ w.heap.size) : SeesQ w' B v qs us := ⟨h.rows.out hb hB hw, h.sc⟩
theorem SeesQ.alloc (h : SeesQ w B v qs us) (hB : B ≤ w.heap.size) (o : Obj) : SeesQ (w.alloc o) B v qs us := ⟨h.rows.alloc hB o, h.sc⟩
theorem SeesQ.drew (h : SeesQ w B v qs us) (n : Nat) : SeesQ (w.drewN n) B v qs us := ⟨h.rows.drew n, h.sc⟩
theorem SeesQ.form (h : SeesQ w B v qs us) : ∃ A c, v = .slice A qs.length c := by obtain ⟨⟨A, c, e, _⟩, _⟩ := h.rows; exact ⟨A, c, e⟩
theorem SeesQ.more {B' : Nat} (h : SeesQ w B v qs us) (hB : B ≤ B') : SeesQ w B' v qs us := by
  obtain ⟨⟨⟨A, c, e, r⟩, hl, he⟩, hs⟩ := h
  exact ⟨⟨⟨A, c, e, r.more hB⟩, hl, fun k c' hc => by obtain ⟨u, h1, A', c'', e', r'⟩ := he k c' hc; exact ⟨u, h1, A', c'', e', r'.more hB⟩⟩, hs⟩
/-- where the k-th lies, and that it reads -/
theorem SeesQ.at_ (h : SeesQ w B v qs us) (k : Nat) (hk : k < qs.length) : ∃ b off c u, v = .slice (some ⟨b, off, none⟩) qs.length c ∧ b < B ∧ w.cell? ⟨b, off + k * 4, none⟩ = some u ∧ Sees w B .i64 u (nthQ qs k).places ∧
    w.cell? ⟨b, off + (k * 4 + 1), none⟩ = some (.int .i64 (nthQ qs k).level) ∧ w.cell? ⟨b, off + (k * 4 + 2), none⟩ = some (.int .i64 (nthQ qs k).sos) ∧ w.cell? ⟨b, off + (k * 4 + 3), none⟩ = some (.int .i64 (nthQ qs k).eos) := by
  obtain ⟨⟨⟨A, c, rfl, hr⟩, hl, he⟩, hs⟩ := h
  obtain ⟨u, h1, h2⟩ := he (k * 4) _ (contsQ_get 0 qs k hk)
  obtain ⟨s1, s2, s3⟩ := hs k hk
  obtain ⟨b, off, rfl, hb, hc⟩ := hr (k * 4) u h1
  have more : ∀ i x, us[i]? = some x → w.cell? ⟨b, off + i, none⟩ = some x := by
    intro i x hx
    obtain ⟨b', off', e, _, hc'⟩ := hr i x hx
    cases e
    exact hc'
  exact ⟨b, off, c, u, rfl, hb, hc, h2, more _ _ s1, more _ _ s2, more _ _ s3⟩
/-- one sequence put behind; its places lie in blocks above those of the others -/
theorem OwnQ.push {mid : Nat} (h : OwnQ w lo mid tt t v qs us) {v' u : Value} {q : Sq} (hmid : mid ≤ hi) (hhi : hi ≤ w.heap.size) (hlm : lo ≤ mid) (ho : Own w mid hi t .i64 u q.places)
    (hrow : w'.ownsRow lo tt 4 v' (qs.length + 1) (us ++ qcells u q)) (hg : w.grownBy w' v.ownBlock) (hv : v'.ownBlock = v.ownBlock ∨ v'.ownBlock = some w.heap.size) : OwnQ w' lo w'.heap.size tt t v' (qs ++ [q]) (us ++ qcells u q) := by
  have hl := h.len
  have apartU : ∀ (i : Nat) (x : Value), us[i]? = some x → x.ownBlock = none ∨ x.ownBlock ≠ u.ownBlock := by
    intro i x hx
    by_cases hn : x.ownBlock = none
    · exact .inl hn
    · refine .inr fun e => ?_
      obtain ⟨g, hg⟩ := Option.ne_none_iff_exists'.1 hn
      have h1 := h.rows.lts i x g hx hg
      have h2 := ho.lt g (by rw [← e, hg])
      omega
  have uv : u.ownBlock = none ∨ u.ownBlock ≠ v.ownBlock := by
    by_cases hn : u.ownBlock = none
    · exact .inl hn
    · refine .inr fun e => ?_
      obtain ⟨g, hg⟩ := Option.ne_none_iff_exists'.1 hn
      have h1 := ho.lt g hg
      have h2 := h.rows.vlt g (by rw [← e, hg])
      omega
  have k4 : ∀ (j : Nat) (x : Value), (qcells u q)[j]? = some x → (j = 0 ∧ x = u) ∨ (0 < j ∧ j < 4 ∧ x.ownBlock = none) := by
    intro j x hx
    match j with
    | 0 => simp [qcells] at hx; exact .inl ⟨rfl, hx.symm⟩
    | 1 => simp [qcells] at hx; subst hx; exact .inr ⟨by omega, by omega, rfl⟩
    | 2 => simp [qcells] at hx; subst hx; exact .inr ⟨by omega, by omega, rfl⟩
    | 3 => simp [qcells] at hx; subst hx; exact .inr ⟨by omega, by omega, rfl⟩
    | j + 4 => simp [qcells] at hx
  have := (h.rows.more (Nat.le_refl _) hmid).push (m := 1) (news := qcells u q) (cn := contsQ t [q]) hrow hg hv hhi
    (fun k c hc => by
      obtain ⟨j, hj, rfl, rfl⟩ := contsQ_some t [q] k c hc
      have e : j = 0 := by simp at hj; exact hj
      subst e
      exact ⟨u, rfl, ho.more hlm (Nat.le_refl _)⟩)
    (fun k x hx hc => by
      rcases k4 k x hx with ⟨rfl, rfl⟩ | ⟨_, _, h3⟩
      · rw [show (0 : Nat) = 0 * 4 from rfl, contsQ_get t [q] 0 (by simp)] at hc; cases hc
      · exact h3)
    (fun i j x y hij hx hy => by
      rcases k4 i x hx with ⟨rfl, rfl⟩ | ⟨_, _, h3⟩
      · rcases k4 j y hy with ⟨rfl, _⟩ | ⟨_, _, h4⟩
        · omega
        · by_cases hn : x.ownBlock = none
          · exact .inl hn
          · exact .inr (by rw [h4]; exact hn)
      · exact .inl h3)
    (fun i j x y hx hy => by
      rcases k4 j y hy with ⟨rfl, rfl⟩ | ⟨_, _, h4⟩
      · exact apartU i x hx
      · by_cases hn : x.ownBlock = none
        · exact .inl hn
        · exact .inr (by rw [h4]; exact hn))
    (fun k x hx => by
      rcases k4 k x hx with ⟨rfl, rfl⟩ | ⟨_, _, h4⟩
      · exact uv
      · exact .inl h4)
  have e : (fun k => if k < us.length then contsQ t qs k else contsQ t [q] (k - us.length)) = contsQ t (qs ++ [q]) := by
    rw [hl]; exact contsQ_app t qs q
  rw [e] at this
  refine ⟨?_, h.sc.app hl u q⟩
  rw [List.length_append]
  exact this
end
/-- how much lies in them -/
def sumQ (qs : List Sq) : Nat := (qs.map fun q => q.places.length).sum
end Go.Proofs.Ythhbikilighemaa
