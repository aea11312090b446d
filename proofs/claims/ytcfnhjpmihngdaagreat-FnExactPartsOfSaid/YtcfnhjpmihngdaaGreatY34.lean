/- Rows of sequences: one marked anew; with the cells put away. No program is named here. -/
import Derived.Test.YtcfnhjpmihngdaaGreatY33
import Derived.Test.YtcfnhjpmihngdaaGreatY05
import Derived.Test.YtcfnhjpmihngdaaGreatY07
import Derived.Test.YtcfnhjpmihngdaaGreatY31
namespace Go.Proofs.YtcfnhjpmihngdaaGreat
open Go.RowKit Go.Shelf
attribute [local go_sem] Oper.semAt_some

/-- what the linker holds, all of it only read -/
structure Lk (w : World) (T : TypeId) (B g : Nat) (b : Int) (v1 v2 v3 vR : Value) (ks M ls : List Int) (R : List (List Int)) : Prop where
  blk : Blk w g T #[.int .i64 b, v1, v2, v3, vR]
  lt : g < B
  s1 : Sees w B .i64 v1 ks
  s2 : Sees w B .i64 v2 M
  s3 : Sees w B .i64 v3 ls
  sR : SeesSS w B .i64 vR R
theorem Lk.below {w w' : World} {T : TypeId} {B C g : Nat} {b : Int} {v1 v2 v3 vR : Value} {ks M ls : List Int} {R : List (List Int)} (h : Lk w T B g b v1 v2 v3 vR ks M ls R) (hb : Below C w w') (hC : B ≤ C) : Lk w' T B g b v1 v2 v3 vR ks M ls R :=
  ⟨h.blk.below hb (by have := h.lt; omega), h.lt, h.s1.below hb hC, h.s2.below hb hC, h.s3.below hb hC, h.sR.below hb hC⟩
theorem Lk.drew {w : World} {T : TypeId} {B g : Nat} {b : Int} {v1 v2 v3 vR : Value} {ks M ls : List Int} {R : List (List Int)} (h : Lk w T B g b v1 v2 v3 vR ks M ls R) (n : Nat) : Lk (w.drewN n) T B g b v1 v2 v3 vR ks M ls R :=
  ⟨h.blk, h.lt, h.s1, h.s2, h.s3, h.sR⟩

theorem ahead_take (ls : List Int) (b : Int) (p : Nat) : ∀ k, k ≤ p → aheadN (ls.take p) b k = aheadN ls b k
  | 0, _ => rfl
  | k + 1, h => by
    show (if nth (ls.take p) k = -1 then _ else _) = (if nth ls k = -1 then _ else _)
    rw [nth_take ls p k (by omega), ahead_take ls b p k (by omega)]
theorem ahead_skip (ls : List Int) (b : Int) (m : Nat) : ∀ j, j ≤ m → (∀ x ∈ dn m j, nth ls x = -1) → aheadN ls b m = aheadN ls b (m - j)
  | 0, _, _ => rfl
  | j + 1, h, hs => by
    rw [dn_succ] at hs
    rw [ahead_skip ls b m j (by omega) fun x hx => hs x (List.mem_append_left _ hx)]
    have h1 := hs (m - 1 - j) (by simp)
    have e : m - j = (m - 1 - j) + 1 := by omega
    rw [e]
    show (if _ then _ else _) = _
    rw [if_pos h1]
    congr 1
    omega
theorem ahead_hit (ls : List Int) (b : Int) (m j : Nat) (h : j < m) (hs : ∀ x ∈ dn m j, nth ls x = -1) (hx : nth ls (m - 1 - j) ≠ -1) : aheadN ls b m = nth ls (m - 1 - j) := by
  rw [ahead_skip ls b m j (by omega) hs]
  have e : m - j = (m - 1 - j) + 1 := by omega
  rw [e]
  show (if _ then _ else _) = _
  rw [if_neg hx]

section
variable {w : World} {B g : Nat} {b : Int} {v1 v2 v3 vR : Value} {ks M ls : List Int} {R : List (List Int)}
set_option maxRecDepth 100000 in
set_option maxHeartbeats 2000000 in
theorem levelAhead_any (h : Lk w 90 B g b v1 v2 v3 vR ks M ls R) (hB : B ≤ w.heap.size) (p : Nat) (hp : p ≤ ls.length) (hl : ls.length ≤ 600) (hcp : ∀ A c, v3 = .slice A ls.length c → ls.length ≤ c) :
    Calls Tryz.prog 85 #[.pointer (some ⟨g, 0, none⟩), .int .i64 p] w fun e w' => e = .returned (.int .i64 (aheadN ls b p)) ∧ Below w.heap.size w w' := by
  have glt := h.lt
  obtain ⟨A3, c3, rfl, r3⟩ := h.s3
  have cc := hcp A3 c3 rfl
  have AT := Lib.hid (ahead_take ls b p p (Nat.le_refl _))
  obtain ⟨zs, hzs⟩ : ∃ zs, Hid (zs = ls.take p) := ⟨_, Lib.hid rfl⟩
  have hzl : zs.length = p := by rw [hzs.out, List.length_take]; omega
  have RZ : Hid (Rd w B A3 (nums .i64 zs)) := Lib.hid (by rw [hzs.out]; have := r3.take p; simpa [nums, List.map_take] using this)
  rw [← hzs.out] at AT
  subst hzl
  rw [← AT.out]
  have H := Lib.hid h
  clear r3 h hcp
  have H1 := Lib.hid (H.out.below ((Below.refl B w).alloc hB (.cells #[.int .i64 0] 2)) (Nat.le_refl _))
  have e3 := H1.out.blk.cell 3 (u := .slice A3 ls.length c3) rfl
  rw [← callsIn_wide (n := 5)]
  refine callsIn_of_wp_marks Tryz.func85 rfl trivial ?_ rfl
  simp only [Tryz.ntmps85, List.size_toArray, List.length_cons, List.length_nil, Nat.reduceAdd, Nat.reduceSub, Array.replicate_succ, Array.replicate_zero, List.push_toArray, List.append_toArray, List.nil_append, List.cons_append]
  gi_wp2_with (refine ⟨trivial, ?_⟩; gi_at_call 101; refine (callsIn_wide.2 (backward_any A3 zs.length c3 _)).mono ?_; rintro e w' ⟨rfl, rfl⟩)
  clear e3
  have bR := Boxed.new w 2 (.int .i64 0)
  have bN := Boxed.new (w.alloc (.cells #[.int .i64 0] 2)) 22 (.slice A3 zs.length c3)
  rw [World.size_alloc] at bN
  have hB0 : Below w.heap.size w ((w.alloc (.cells #[.int .i64 0] 2)).alloc (.cells #[.slice A3 zs.length c3] 22)) := ((Below.refl _ w).alloc (Nat.le_refl _) _).alloc (by simp) _
  have H2 := Lib.hid (H.out.below hB0 hB)
  have RZ2 : Hid (Rd ((w.alloc (.cells #[.int .i64 0] 2)).alloc (.cells #[.slice A3 zs.length c3] 22)) (w.heap.size + 2) A3 (nums .i64 zs)) := Lib.hid ((RZ.out.below hB0 hB).more (by omega))
  refine wpIn_rangeFunc_ownG rfl (by omega) (gf := 110) (lb := #[.pointer (some ⟨w.heap.size + 1, 0, none⟩)]) rfl trivial (enters_of Tryz.func110 (by kernel_rfl) rfl)
    (back_stops 4 (by omega) (w.heap.size + 1) (w.heap.size + 2) c3 A3 zs (by omega) _ (by omega) (by simp) bN.cell RZ2.out) belowK_t (belowK_b (by simp)) (Below.refl _ _) (fun _ => rfl)
    (fun pre W => ((∀ x ∈ pre, nth zs x = -1) ∧ W.cell? ⟨w.heap.size, 0, none⟩ = some (.int .i64 0) ∧ W.frozen? ⟨w.heap.size, 0, none⟩ = false) ∧ Below w.heap.size w W)
    (fun c pre W => (c = .ret ∧ ∃ ini last, pre = ini ++ [last] ∧ (∀ x ∈ ini, nth zs x = -1) ∧ nth zs last ≠ -1 ∧ W.cell? ⟨w.heap.size, 0, none⟩ = some (.int .i64 (nth zs last))) ∧ Below w.heap.size w W)
    (OwnFrom.and (Own.from (fun s A B row hs hg hr => ⟨hs.1, cell_kept hs.2.1 hg hr, (frozen_kept hs.2.1 hg hr).trans hs.2.2⟩) _) (ownFrom_below (Nat.le_refl _) (by simp; omega)))
    (fun c => OwnFrom.and (Own.from (fun s A B row hs hg hr => by obtain ⟨hc, ini, last, e1, e2, e3, e4⟩ := hs; exact ⟨hc, ini, last, e1, e2, e3, cell_kept e4 hg hr⟩) _) (ownFrom_below (Nat.le_refl _) (by simp; omega)))
    ⟨⟨by simp, (bR.alloc _).cell, (bR.alloc _).frozen⟩, hB0⟩
    (fun x => { tmps := #[.pointer (some ⟨g, 0, none⟩), .int .i64 zs.length, undef, undef, .pointer (some ⟨w.heap.size, 0, none⟩), undef, .int .i64 (nth zs x), .pointer (some ⟨g, 0, none⟩), .pointer (some ⟨g, 0, none⟩), .pointer (some ⟨g, 3, none⟩), .slice A3 ls.length c3, .int .i64 zs.length, .slice A3 zs.length c3, .func (.func 110) #[] #[.pointer (some ⟨w.heap.size + 1, 0, none⟩)], .int .i64 (x : Int), .int .i64 (nth zs x), undef, undef, undef, undef, undef, undef, undef], defers := [] }) ?assign ?body ?done ?stop
  case assign =>
    intro l x W K hK
    gi_wp2
    exact hK
  case body =>
    rintro l pre x W ⟨⟨hp', hcr, hfr⟩, hBW⟩ _
    by_cases hx : nth zs x = -1
    · have hxe : (nth zs x != -1) = false := by simp [hx]
      have HX := Lib.hid hx
      obtain ⟨q, hq⟩ : ∃ q, Hid (q = nth zs x) := ⟨_, Lib.hid rfl⟩
      rw [← hq.out] at hxe ⊢
      clear hx
      gi_wp2
      exact ⟨KeepsFrom.refl _ _, Below.refl _ _, ⟨fun y hy => (List.mem_append.1 hy).elim (hp' y) (fun e => by simp at e; subst e; exact HX.out), hcr, hfr⟩, hBW⟩
    · have hxe : (nth zs x != -1) = true := by simpa using hx
      have HX := Lib.hid hx
      obtain ⟨q, hq⟩ : ∃ q, Hid (q = nth zs x) := ⟨_, Lib.hid rfl⟩
      rw [← hq.out] at hxe ⊢
      clear hx
      gi_wp2
      exact ⟨(KeepsOthers.setCell _ _ _).from _, ⟨rfl, pre, x, rfl, hp', HX.out, by rw [← hq.out]; exact World.cell?_setCell_same' _ _ _ (by rw [hcr]; rfl)⟩, hBW.setCell (p := ⟨w.heap.size, 0, none⟩) (Nat.le_refl _) _⟩
  case done =>
    rintro D ys W hD rfl ⟨⟨hne, hcr, hfr⟩, hBW⟩ hK
    have H3 := H.out.below hBW hB
    have e0 := H3.blk.cell 0 (u := .int .i64 b) rfl
    have E := Lib.hid (show aheadN zs b zs.length = b by rw [ahead_skip zs b zs.length zs.length (Nat.le_refl _) hne, Nat.sub_self]; rfl)
    clear hne
    gi_wp2
    have hK' := (KeepsOthers.setCell W ⟨w.heap.size, 0, none⟩ (.int .i64 b)).same D _ hK rfl
    refine ⟨by simp, .inl ⟨_, _, rfl, run_takeDeferred hK', ?_⟩⟩
    have hc5 := cell_kept (World.cell?_setCell_same' W ⟨w.heap.size, 0, none⟩ (.int .i64 b) (by rw [hcr]; rfl)) (grownBy_putObj' _ D (.deferred none)) (fun r e => by cases e; exact ⟨_, hK', rfl⟩)
    refine ⟨.int .i64 b, ?_, rint E.out.symm, (hBW.setCell (p := ⟨w.heap.size, 0, none⟩) (Nat.le_refl _) _).trans (belowK_b (w := w) (Nat.le_refl _) _ D _ _ (by simp at hD; omega) hK' rfl rfl)⟩
    simp [results, Tryz.results85, go_sem, hc5]
  case stop =>
    rintro D c pre W hD ⟨k, hk, rfl⟩ ⟨⟨rfl, ini, last, e1, e2, e3, hcr⟩, hBW⟩ hK
    obtain ⟨k', rfl⟩ : ∃ k', k = k' + 1 := by
      cases k with
      | zero => simp [dn] at e1
      | succ k' => exact ⟨k', rfl⟩
    rw [dn_succ] at e1
    obtain ⟨rfl, e5⟩ := List.append_inj' e1 rfl
    obtain rfl : zs.length - 1 - k' = last := by simpa using e5
    have E := Lib.hid (ahead_hit zs b zs.length k' (by omega) e2 e3)
    obtain ⟨q, hq⟩ : ∃ q, Hid (q = nth zs (zs.length - 1 - k')) := ⟨_, Lib.hid rfl⟩
    rw [← hq.out] at hcr E
    clear e1 e2 e3 e5
    gi_wp2
    refine ⟨by simp, .inl ⟨_, _, rfl, run_takeDeferred hK, ?_⟩⟩
    have hc5 := cell_kept hcr (grownBy_putObj' _ D (.deferred none)) (fun r e => by cases e; exact ⟨_, hK, rfl⟩)
    refine ⟨.int .i64 q, ?_, rint E.out.symm, hBW.trans (belowK_b (w := w) (Nat.le_refl _) W D _ _ (by simp at hD; omega) hK rfl rfl)⟩
    simp [results, Tryz.results85, go_sem, hc5]
end
end Go.Proofs.YtcfnhjpmihngdaaGreat

namespace Go.Proofs.YtcfnhjpmihngdaaGreat
open Go.RowKit

def contsQ (t : TypeId) (qs : List Sq) : Nat → Option Cont := fun k => if k % 4 = 0 then qs[k / 4]?.map fun q => ⟨t, .i64, q.places⟩ else none
/-- an element, closed to simp -/
def nthQ (qs : List Sq) (k : Nat) : Sq := qs[k]?.getD ⟨[], 0, 0, 0⟩
theorem nthQ_get (qs : List Sq) (k : Nat) (h : k < qs.length) : qs[k]? = some (nthQ qs k) := by simp [nthQ, List.getElem?_eq_getElem h]
theorem contsQ_get (t : TypeId) (qs : List Sq) (k : Nat) (h : k < qs.length) : contsQ t qs (k * 4) = some ⟨t, .i64, (nthQ qs k).places⟩ := by
  unfold contsQ
  rw [if_pos (by omega), Nat.mul_div_cancel _ (by omega), nthQ_get qs k h]; rfl
theorem contsQ_some (t : TypeId) (qs : List Sq) (k : Nat) (c : Cont) (h : contsQ t qs k = some c) : ∃ j, j < qs.length ∧ k = j * 4 ∧ c = ⟨t, .i64, (nthQ qs j).places⟩ := by
  unfold contsQ at h
  split at h
  · by_cases hj : k / 4 < qs.length
    · rw [nthQ_get qs _ hj] at h
      injection h with h
      exact ⟨k / 4, hj, by omega, h.symm⟩
    · rw [List.getElem?_eq_none (by omega)] at h; cases h
  · cases h
theorem contsQ_app (t : TypeId) (qs : List Sq) (q : Sq) : (fun k => if k < qs.length * 4 then contsQ t qs k else contsQ t [q] (k - qs.length * 4)) = contsQ t (qs ++ [q]) := by
  funext k
  by_cases hk : k < qs.length * 4
  · rw [if_pos hk]
    unfold contsQ
    rw [List.getElem?_append_left (by omega)]
  · rw [if_neg hk]
    unfold contsQ
    rw [List.getElem?_append_right (by omega), show (k - qs.length * 4) % 4 = k % 4 by omega, show (k - qs.length * 4) / 4 = k / 4 - qs.length by omega]
/-- the numbers in the cells -/
def Scal (us : List Value) (qs : List Sq) : Prop := ∀ j, j < qs.length → us[j * 4 + 1]? = some (.int .i64 (nthQ qs j).level) ∧ us[j * 4 + 2]? = some (.int .i64 (nthQ qs j).sos) ∧ us[j * 4 + 3]? = some (.int .i64 (nthQ qs j).eos)
theorem nthQ_left (qs : List Sq) (q : Sq) (j : Nat) (h : j < qs.length) : nthQ (qs ++ [q]) j = nthQ qs j := by unfold nthQ; rw [List.getElem?_append_left h]
theorem nthQ_right (qs : List Sq) (q : Sq) : nthQ (qs ++ [q]) qs.length = q := by simp [nthQ]
def qcells (u : Value) (q : Sq) : List Value := [u, .int .i64 q.level, .int .i64 q.sos, .int .i64 q.eos]
theorem Scal.app {us : List Value} {qs : List Sq} (h : Scal us qs) (hl : us.length = qs.length * 4) (u : Value) (q : Sq) : Scal (us ++ qcells u q) (qs ++ [q]) := by
  intro j hj
  by_cases hlt : j < qs.length
  · rw [List.getElem?_append_left (by omega), List.getElem?_append_left (by omega), List.getElem?_append_left (by omega), nthQ_left qs q j hlt]
    exact h j hlt
  · have e : j = qs.length := by simp at hj; omega
    subst e
    rw [nthQ_right, List.getElem?_append_right (by omega), List.getElem?_append_right (by omega), List.getElem?_append_right (by omega), hl, show qs.length * 4 + 1 - qs.length * 4 = 1 by omega, show qs.length * 4 + 2 - qs.length * 4 = 2 by omega, show qs.length * 4 + 3 - qs.length * 4 = 3 by omega]
    exact ⟨rfl, rfl, rfl⟩

/-- v holds the sequences qs, all of it the call's own -/
structure OwnQ (w : World) (lo hi : Nat) (tt t : TypeId) (v : Value) (qs : List Sq) (us : List Value) : Prop where
  rows : OwnC w lo hi tt 4 v qs.length us (contsQ t qs)
  sc : Scal us qs
structure SeesQ (w : World) (B : Nat) (v : Value) (qs : List Sq) (us : List Value) : Prop where
  rows : SeesC w B 4 v qs.length us (contsQ 0 qs)
  sc : Scal us qs
section
variable {w w' : World} {lo hi B : Nat} {tt t : TypeId} {v : Value} {qs : List Sq} {us : List Value}
theorem OwnQ.form (h : OwnQ w lo hi tt t v qs us) : ∃ A c, v = .slice A qs.length c := own_form h.rows.row
theorem OwnQ.len (h : OwnQ w lo hi tt t v qs us) : us.length = qs.length * 4 := h.rows.row.1
theorem OwnQ.nil (w : World) (lo hi : Nat) (tt t : TypeId) : OwnQ w lo hi tt t (.slice none 0 0) [] [] := ⟨by
  have := OwnC.nil w lo hi tt 4
  have e : contsQ t [] = fun _ => none := by funext k; unfold contsQ; split <;> simp
  rw [e]; exact this, fun j hj => by simp at hj⟩
theorem OwnQ.below {C : Nat} (h : OwnQ w lo hi tt t v qs us) (hb : Below C w w') (hB : hi ≤ C) : OwnQ w' lo hi tt t v qs us := ⟨h.rows.below hb hB, h.sc⟩
theorem OwnQ.alloc (h : OwnQ w lo hi tt t v qs us) (o : Obj) : OwnQ (w.alloc o) lo hi tt t v qs us := ⟨h.rows.alloc o, h.sc⟩
theorem OwnQ.drew (h : OwnQ w lo hi tt t v qs us) (n : Nat) : OwnQ (w.drewN n) lo hi tt t v qs us := ⟨h.rows.drew n, h.sc⟩
theorem OwnQ.set (h : OwnQ w lo hi tt t v qs us) (p : Addr) (u : Value) (hp : p.block < lo ∨ hi ≤ p.block) : OwnQ (w.setCell p u) lo hi tt t v qs us := ⟨h.rows.set p u hp, h.sc⟩
theorem OwnQ.out {lo' hi' : Nat} (h : OwnQ w lo hi tt t v qs us) (hb : Out lo' hi' w w') (hd : hi ≤ lo' ∨ hi' ≤ lo) : OwnQ w' lo hi tt t v qs us := ⟨h.rows.out hb hd, h.sc⟩
theorem OwnQ.more {lo' hi' : Nat} (h : OwnQ w lo hi tt t v qs us) (h1 : lo' ≤ lo) (h2 : hi ≤ hi') : OwnQ w lo' hi' tt t v qs us := ⟨h.rows.more h1 h2, h.sc⟩
theorem OwnQ.keep (h : OwnQ w lo hi tt t v qs us) (hk : ∀ k, k < w.heap.size → lo ≤ k → k < hi → w'.heap[k]? = w.heap[k]?) : OwnQ w' lo hi tt t v qs us := ⟨h.rows.keep hk, h.sc⟩
theorem OwnQ.sees (h : OwnQ w lo hi tt t v qs us) : SeesQ w hi v qs us := by
  obtain ⟨a, b, c⟩ := h.rows.sees
  refine ⟨⟨a, b, fun k c' hc => ?_⟩, h.sc⟩
  obtain ⟨j, hj, rfl, rfl⟩ := contsQ_some 0 qs k c' hc
  obtain ⟨u, h1, h2⟩ := c (j * 4) _ (contsQ_get t qs j hj)
  exact ⟨u, h1, h2⟩
theorem SeesQ.below {C : Nat} (h : SeesQ w B v qs us) (hb : Below C w w') (hB : B ≤ C) : SeesQ w' B v qs us := ⟨h.rows.below hb hB, h.sc⟩
theorem SeesQ.out (h : SeesQ w B v qs us) (hb : Out lo hi w w') (hB : B ≤ lo) (hw : B ≤ w.heap.size) : SeesQ w' B v qs us := ⟨h.rows.out hb hB hw, h.sc⟩
theorem SeesQ.alloc (h : SeesQ w B v qs us) (hB : B ≤ w.heap.size) (o : Obj) : SeesQ (w.alloc o) B v qs us := ⟨h.rows.alloc hB o, h.sc⟩
theorem SeesQ.drew (h : SeesQ w B v qs us) (n : Nat) : SeesQ (w.drewN n) B v qs us := ⟨h.rows.drew n, h.sc⟩
theorem SeesQ.form (h : SeesQ w B v qs us) : ∃ A c, v = .slice A qs.length c := by obtain ⟨⟨A, c, e, _⟩, _⟩ := h.rows; exact ⟨A, c, e⟩
theorem SeesQ.more {B' : Nat} (h : SeesQ w B v qs us) (hB : B ≤ B') : SeesQ w B' v qs us := by
  obtain ⟨⟨⟨A, c, e, r⟩, hl, he⟩, hs⟩ := h
  exact ⟨⟨⟨A, c, e, r.more hB⟩, hl, fun k c' hc => by obtain ⟨u, h1, A', c'', e', r'⟩ := he k c' hc; exact ⟨u, h1, A', c'', e', r'.more hB⟩⟩, hs⟩
/-- where the k-th lies, and that it reads -/
theorem SeesQ.at_ (h : SeesQ w B v qs us) (k : Nat) (hk : k < qs.length) : ∃ b off c u, v = .slice (some ⟨b, off, none⟩) qs.length c ∧ b < B ∧ w.cell? ⟨b, off + k * 4, none⟩ = some u ∧ Sees w B .i64 u (nthQ qs k).places ∧
    w.cell? ⟨b, off + (k * 4 + 1), none⟩ = some (.int .i64 (nthQ qs k).level) ∧ w.cell? ⟨b, off + (k * 4 + 2), none⟩ = some (.int .i64 (nthQ qs k).sos) ∧ w.cell? ⟨b, off + (k * 4 + 3), none⟩ = some (.int .i64 (nthQ qs k).eos) := by
  obtain ⟨⟨⟨A, c, rfl, hr⟩, hl, he⟩, hs⟩ := h
  obtain ⟨u, h1, h2⟩ := he (k * 4) _ (contsQ_get 0 qs k hk)
  obtain ⟨s1, s2, s3⟩ := hs k hk
  obtain ⟨b, off, rfl, hb, hc⟩ := hr (k * 4) u h1
  have more : ∀ i x, us[i]? = some x → w.cell? ⟨b, off + i, none⟩ = some x := by
    intro i x hx
    obtain ⟨b', off', e, _, hc'⟩ := hr i x hx
    cases e
    exact hc'
  exact ⟨b, off, c, u, rfl, hb, hc, h2, more _ _ s1, more _ _ s2, more _ _ s3⟩
/-- one sequence put behind; its places lie in blocks above those of the others -/
theorem OwnQ.push {mid : Nat} (h : OwnQ w lo mid tt t v qs us) {v' u : Value} {q : Sq} (hmid : mid ≤ hi) (hhi : hi ≤ w.heap.size) (hlm : lo ≤ mid) (ho : Own w mid hi t .i64 u q.places)
    (hrow : w'.ownsRow lo tt 4 v' (qs.length + 1) (us ++ qcells u q)) (hg : w.grownBy w' v.ownBlock) (hv : v'.ownBlock = v.ownBlock ∨ v'.ownBlock = some w.heap.size) : OwnQ w' lo w'.heap.size tt t v' (qs ++ [q]) (us ++ qcells u q) := by
  have hl := h.len
  have apartU : ∀ (i : Nat) (x : Value), us[i]? = some x → x.ownBlock = none ∨ x.ownBlock ≠ u.ownBlock := by
    intro i x hx
    by_cases hn : x.ownBlock = none
    · exact .inl hn
    · refine .inr fun e => ?_
      obtain ⟨g, hg⟩ := Option.ne_none_iff_exists'.1 hn
      have h1 := h.rows.lts i x g hx hg
      have h2 := ho.lt g (by rw [← e, hg])
      omega
  have uv : u.ownBlock = none ∨ u.ownBlock ≠ v.ownBlock := by
    by_cases hn : u.ownBlock = none
    · exact .inl hn
    · refine .inr fun e => ?_
      obtain ⟨g, hg⟩ := Option.ne_none_iff_exists'.1 hn
      have h1 := ho.lt g hg
      have h2 := h.rows.vlt g (by rw [← e, hg])
      omega
  have k4 : ∀ (j : Nat) (x : Value), (qcells u q)[j]? = some x → (j = 0 ∧ x = u) ∨ (0 < j ∧ j < 4 ∧ x.ownBlock = none) := by
    intro j x hx
    match j with
    | 0 => simp [qcells] at hx; exact .inl ⟨rfl, hx.symm⟩
    | 1 => simp [qcells] at hx; subst hx; exact .inr ⟨by omega, by omega, rfl⟩
    | 2 => simp [qcells] at hx; subst hx; exact .inr ⟨by omega, by omega, rfl⟩
    | 3 => simp [qcells] at hx; subst hx; exact .inr ⟨by omega, by omega, rfl⟩
    | j + 4 => simp [qcells] at hx
  have := (h.rows.more (Nat.le_refl _) hmid).push (m := 1) (news := qcells u q) (cn := contsQ t [q]) hrow hg hv hhi
    (fun k c hc => by
      obtain ⟨j, hj, rfl, rfl⟩ := contsQ_some t [q] k c hc
      have e : j = 0 := by simp at hj; exact hj
      subst e
      exact ⟨u, rfl, ho.more hlm (Nat.le_refl _)⟩)
    (fun k x hx hc => by
      rcases k4 k x hx with ⟨rfl, rfl⟩ | ⟨_, _, h3⟩
      · rw [show (0 : Nat) = 0 * 4 from rfl, contsQ_get t [q] 0 (by simp)] at hc; cases hc
      · exact h3)
    (fun i j x y hij hx hy => by
      rcases k4 i x hx with ⟨rfl, rfl⟩ | ⟨_, _, h3⟩
      · rcases k4 j y hy with ⟨rfl, _⟩ | ⟨_, _, h4⟩
        · omega
        · by_cases hn : x.ownBlock = none
          · exact .inl hn
          · exact .inr (by rw [h4]; exact hn)
      · exact .inl h3)
    (fun i j x y hx hy => by
      rcases k4 j y hy with ⟨rfl, rfl⟩ | ⟨_, _, h4⟩
      · exact apartU i x hx
      · by_cases hn : x.ownBlock = none
        · exact .inl hn
        · exact .inr (by rw [h4]; exact hn))
    (fun k x hx => by
      rcases k4 k x hx with ⟨rfl, rfl⟩ | ⟨_, _, h4⟩
      · exact uv
      · exact .inl h4)
  have e : (fun k => if k < us.length then contsQ t qs k else contsQ t [q] (k - us.length)) = contsQ t (qs ++ [q]) := by
    rw [hl]; exact contsQ_app t qs q
  rw [e] at this
  refine ⟨?_, h.sc.app hl u q⟩
  rw [List.length_append]
  exact this
end
/-- how much lies in them -/
def sumQ (qs : List Sq) : Nat := (qs.map fun q => q.places.length).sum
end Go.Proofs.YtcfnhjpmihngdaaGreat

namespace Go.Proofs.YtcfnhjpmihngdaaGreat
open Go.RowKit

theorem sumQ_cons (q : Sq) (r : List Sq) : sumQ (q :: r) = q.places.length + sumQ r := by simp [sumQ]
theorem sumQ_app (a b : List Sq) : sumQ (a ++ b) = sumQ a + sumQ b := by simp [sumQ]
theorem nthQ_zero (q : Sq) (r : List Sq) : nthQ (q :: r) 0 = q := rfl
theorem nthQ_succ (q : Sq) (r : List Sq) (j : Nat) : nthQ (q :: r) (j + 1) = nthQ r j := by simp [nthQ]
theorem sumQ_take_step (qs : List Sq) (j : Nat) (h : j < qs.length) : sumQ (qs.take (j + 1)) = sumQ (qs.take j) + (nthQ qs j).places.length := by
  rw [List.take_succ_eq_append_getElem h, sumQ_app]
  simp [sumQ, nthQ, List.getElem?_eq_getElem h]
theorem sumQ_take_le : ∀ (qs : List Sq) (j : Nat), sumQ (qs.take j) ≤ sumQ qs
  | [], j => by simp
  | q :: r, 0 => by simp [sumQ]
  | q :: r, j + 1 => by rw [List.take_succ_cons, sumQ_cons, sumQ_cons]; have := sumQ_take_le r j; omega
theorem sumQ_nth_le (qs : List Sq) (j : Nat) (h : j < qs.length) : sumQ (qs.take j) + (nthQ qs j).places.length ≤ sumQ qs := by
  rw [← sumQ_take_step qs j h]; exact sumQ_take_le _ _

/-- a cell that is no slice is written -/
theorem OwnC.put {w : World} {lo hi : Nat} {tt : TypeId} {size n g cap : Nat} {us : List Value} {cs : Nat → Option Cont} (h : OwnC w lo hi tt size (.slice (some ⟨g, 0, none⟩) n cap) n us cs) (k : Nat) (u : Value) (hc : cs k = none) (hu : u.ownBlock = none) :
    OwnC (w.setCell ⟨g, k, none⟩ u) lo hi tt size (.slice (some ⟨g, 0, none⟩) n cap) n (us.set k u) cs := by
  have st := h.row.stored k u
  have get : ∀ (j : Nat) (x : Value), (us.set k u)[j]? = some x → x = u ∨ us[j]? = some x := by
    intro j x hx
    by_cases e : j = k
    · subst e
      by_cases hk : j < us.length
      · rw [List.getElem?_set_self hk] at hx
        injection hx with hx
        exact .inl hx.symm
      · rw [List.getElem?_eq_none (by simp; omega)] at hx; cases hx
    · rw [List.getElem?_set_ne (by omega)] at hx
      exact .inr hx
  refine ⟨st.1, fun g' hg => (h.vlt g' hg).2.1, ?_, ?_, ?_, ?_⟩
  · intro j c hj
    obtain ⟨x, h1, h2⟩ := h.each j c hj
    have hjk : j ≠ k := fun e => by rw [e, hc] at hj; cases hj
    exact ⟨x, by rw [List.getElem?_set_ne (by omega)]; exact h1, ⟨h2.1.kept st.2 (h.off j x h1), h2.2⟩⟩
  · intro j x hx hj
    rcases get j x hx with rfl | h1
    · exact hu
    · exact h.bare j x h1 hj
  · intro i j x y hij hx hy
    rcases get i x hx with rfl | h1
    · exact .inl hu
    · rcases get j y hy with rfl | h2
      · by_cases hn : x.ownBlock = none
        · exact .inl hn
        · exact .inr (by rw [hu]; exact hn)
      · exact h.apart i j x y hij h1 h2
  · intro j x hx
    rcases get j x hx with rfl | h1
    · exact .inl hu
    · exact h.off j x h1
/-- one sequence marked anew -/
theorem OwnQ.mark {w w1 : World} {lo hi : Nat} {tt t : TypeId} {g n cap : Nat} {qs : List Sq} {us : List Value} (h : OwnQ w lo hi tt t (.slice (some ⟨g, 0, none⟩) n cap) qs us) (hn : n = qs.length) {j : Nat} (hj : j < qs.length) {u : Value} {ys : List Int} (hu : us[j * 4]? = some u)
    (hg : w.grownBy w1 u.ownBlock) (ho : Own w1 lo hi t .i64 u ys) (a b c : Int) :
    OwnQ (((w1.setCell ⟨g, j * 4 + 1, none⟩ (.int .i64 a)).setCell ⟨g, j * 4 + 2, none⟩ (.int .i64 b)).setCell ⟨g, j * 4 + 3, none⟩ (.int .i64 c)) lo hi tt t (.slice (some ⟨g, 0, none⟩) n cap) (qs.set j ⟨ys, a, b, c⟩)
      (((us.set (j * 4 + 1) (.int .i64 a)).set (j * 4 + 2) (.int .i64 b)).set (j * 4 + 3) (.int .i64 c)) := by
  subst hn
  have hl := h.len
  have r1 := h.rows.turn (contsQ_get t qs j hj) hu hg ho
  have nc : ∀ i, i % 4 ≠ 0 → (fun k => if k = j * 4 then some { (⟨t, .i64, (nthQ qs j).places⟩ : Cont) with zs := ys } else contsQ t qs k) i = none := by
    intro i hi4
    simp only
    rw [if_neg (by omega)]
    unfold contsQ
    rw [if_neg hi4]
  have r4 := ((r1.put (j * 4 + 1) (.int .i64 a) (nc _ (by omega)) rfl).put (j * 4 + 2) (.int .i64 b) (nc _ (by omega)) rfl).put (j * 4 + 3) (.int .i64 c) (nc _ (by omega)) rfl
  have e : (fun k => if k = j * 4 then some { (⟨t, .i64, (nthQ qs j).places⟩ : Cont) with zs := ys } else contsQ t qs k) = contsQ t (qs.set j ⟨ys, a, b, c⟩) := by
    funext k
    by_cases ek : k = j * 4
    · subst ek
      rw [if_pos rfl]
      unfold contsQ
      rw [if_pos (by omega), Nat.mul_div_cancel _ (by omega), List.getElem?_set_self hj]; rfl
    · rw [if_neg ek]
      unfold contsQ
      split
      · rw [List.getElem?_set_ne (by omega)]
      · rfl
  rw [e] at r4
  refine ⟨by rw [List.length_set]; exact r4, fun i hi' => ?_⟩
  rw [List.length_set] at hi'
  by_cases ei : i = j
  · subst ei
    have en : nthQ (qs.set i ⟨ys, a, b, c⟩) i = ⟨ys, a, b, c⟩ := by unfold nthQ; rw [List.getElem?_set_self hj]; rfl
    rw [en]
    refine ⟨?_, ?_, ?_⟩
    · rw [List.getElem?_set_ne (by omega), List.getElem?_set_ne (by omega), List.getElem?_set_self (by omega)]
    · rw [List.getElem?_set_ne (by omega), List.getElem?_set_self (by simp; omega)]
    · rw [List.getElem?_set_self (by simp; omega)]
  · have en : nthQ (qs.set j ⟨ys, a, b, c⟩) i = nthQ qs i := by unfold nthQ; rw [List.getElem?_set_ne (by omega)]
    rw [en]
    obtain ⟨s1, s2, s3⟩ := h.sc i hi'
    refine ⟨?_, ?_, ?_⟩
    · rw [List.getElem?_set_ne (by omega), List.getElem?_set_ne (by omega), List.getElem?_set_ne (by omega)]; exact s1
    · rw [List.getElem?_set_ne (by omega), List.getElem?_set_ne (by omega), List.getElem?_set_ne (by omega)]; exact s2
    · rw [List.getElem?_set_ne (by omega), List.getElem?_set_ne (by omega), List.getElem?_set_ne (by omega)]; exact s3
/-- where the j-th lies -/
theorem OwnQ.at_ {w : World} {lo hi : Nat} {tt t : TypeId} {v : Value} {qs : List Sq} {us : List Value} (h : OwnQ w lo hi tt t v qs us) (j : Nat) (hj : j < qs.length) : ∃ g c u, v = .slice (some ⟨g, 0, none⟩) qs.length c ∧ lo ≤ g ∧ g < hi ∧ us[j * 4]? = some u ∧ w.cell? ⟨g, j * 4, none⟩ = some u ∧ Own w lo hi t .i64 u (nthQ qs j).places ∧ (u.ownBlock = none ∨ u.ownBlock ≠ some g) ∧
    w.cell? ⟨g, j * 4 + 1, none⟩ = some (.int .i64 (nthQ qs j).level) ∧ w.cell? ⟨g, j * 4 + 2, none⟩ = some (.int .i64 (nthQ qs j).sos) ∧ w.cell? ⟨g, j * 4 + 3, none⟩ = some (.int .i64 (nthQ qs j).eos) ∧ (∀ i, w.frozen? ⟨g, i, none⟩ = false) := by
  obtain ⟨u, h1, h2⟩ := h.rows.each (j * 4) _ (contsQ_get t qs j hj)
  obtain ⟨s1, s2, s3⟩ := h.sc j hj
  have hrow := h.rows.row
  rcases hrow.2 with ⟨_, h0⟩ | ⟨g, cap, cur, hv, hb, hg, hn, hm, hs, htk⟩
  · omega
  · subst hv
    exact ⟨g, cap, u, rfl, hb, h.rows.top g rfl, h1, by rw [hrow.cellAt _ (by omega)]; exact h1, h2, h.rows.off _ u h1, by rw [hrow.cellAt _ (by omega)]; exact s1, by rw [hrow.cellAt _ (by omega)]; exact s2, by rw [hrow.cellAt _ (by omega)]; exact s3, fun i => hrow.frozenAt i⟩

/-! with the cells put away -/
def OwnQS (w : World) (lo hi : Nat) (tt t : TypeId) (v : Value) (qs : List Sq) : Prop := ∃ us, OwnQ w lo hi tt t v qs us
def SeesQS (w : World) (B : Nat) (v : Value) (qs : List Sq) : Prop := ∃ us, SeesQ w B v qs us
section
variable {w w' : World} {lo hi B : Nat} {tt t : TypeId} {v : Value} {qs : List Sq}
theorem OwnQS.form (h : OwnQS w lo hi tt t v qs) : ∃ A c, v = .slice A qs.length c := by obtain ⟨us, h⟩ := h; exact h.form
theorem OwnQS.nil (w : World) (lo hi : Nat) (tt t : TypeId) : OwnQS w lo hi tt t (.slice none 0 0) [] := ⟨[], OwnQ.nil _ _ _ _ _⟩
theorem OwnQS.below {C : Nat} (h : OwnQS w lo hi tt t v qs) (hb : Below C w w') (hB : hi ≤ C) : OwnQS w' lo hi tt t v qs := by obtain ⟨us, h⟩ := h; exact ⟨us, h.below hb hB⟩
theorem OwnQS.alloc (h : OwnQS w lo hi tt t v qs) (o : Obj) : OwnQS (w.alloc o) lo hi tt t v qs := by obtain ⟨us, h⟩ := h; exact ⟨us, h.alloc o⟩
theorem OwnQS.set (h : OwnQS w lo hi tt t v qs) (p : Addr) (u : Value) (hp : p.block < lo ∨ hi ≤ p.block) : OwnQS (w.setCell p u) lo hi tt t v qs := by obtain ⟨us, h⟩ := h; exact ⟨us, h.set p u hp⟩
theorem OwnQS.out {lo' hi' : Nat} (h : OwnQS w lo hi tt t v qs) (hb : Out lo' hi' w w') (hd : hi ≤ lo' ∨ hi' ≤ lo) : OwnQS w' lo hi tt t v qs := by obtain ⟨us, h⟩ := h; exact ⟨us, h.out hb hd⟩
theorem OwnQS.more {lo' hi' : Nat} (h : OwnQS w lo hi tt t v qs) (h1 : lo' ≤ lo) (h2 : hi ≤ hi') : OwnQS w lo' hi' tt t v qs := by obtain ⟨us, h⟩ := h; exact ⟨us, h.more h1 h2⟩
theorem OwnQS.sees (h : OwnQS w lo hi tt t v qs) : SeesQS w hi v qs := by obtain ⟨us, h⟩ := h; exact ⟨us, h.sees⟩
theorem SeesQS.below {C : Nat} (h : SeesQS w B v qs) (hb : Below C w w') (hB : B ≤ C) : SeesQS w' B v qs := by obtain ⟨us, h⟩ := h; exact ⟨us, h.below hb hB⟩
theorem SeesQS.out (h : SeesQS w B v qs) (hb : Out lo hi w w') (hB : B ≤ lo) (hw : B ≤ w.heap.size) : SeesQS w' B v qs := by obtain ⟨us, h⟩ := h; exact ⟨us, h.out hb hB hw⟩
theorem SeesQS.alloc (h : SeesQS w B v qs) (hB : B ≤ w.heap.size) (o : Obj) : SeesQS (w.alloc o) B v qs := by obtain ⟨us, h⟩ := h; exact ⟨us, h.alloc hB o⟩
theorem SeesQS.drew (h : SeesQS w B v qs) (n : Nat) : SeesQS (w.drewN n) B v qs := by obtain ⟨us, h⟩ := h; exact ⟨us, h.drew n⟩
theorem SeesQS.more {B' : Nat} (h : SeesQS w B v qs) (hB : B ≤ B') : SeesQS w B' v qs := by obtain ⟨us, h⟩ := h; exact ⟨us, h.more hB⟩
end
end Go.Proofs.YtcfnhjpmihngdaaGreat
