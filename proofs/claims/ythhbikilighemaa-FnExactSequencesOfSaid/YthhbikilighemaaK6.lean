/- Chapter 5: the program's linker, and the level ahead. -/
import Derived.Test.YthhbikilighemaaK5
import Derived.Test.YthhbikilighemaaO1
namespace Go.Proofs.Ythhbikilighemaa
open Go.RowKit Go.Shelf
attribute [local go_sem] Oper.semAt_some

/-- what the linker holds, all of it only read -/
structure Lk (w : World) (T : TypeId) (B g : Nat) (b : Int) (v1 v2 v3 vR : Value) (ks M ls : List Int) (R : List (List Int)) : Prop where
  blk : Blk w g T #[.int .i64 b, v1, v2, v3, vR]
  lt : g < B
  s1 : Sees w B .i64 v1 ks
  s2 : Sees w B .i64 v2 M
  s3 : Sees w B .i64 v3 ls
  sR : SeesSS w B .i64 vR R
theorem Lk.below {w w' : World} {T : TypeId} {B C g : Nat} {b : Int} {v1 v2 v3 vR : Value} {ks M ls : List Int} {R : List (List Int)} (h : Lk w T B g b v1 v2 v3 vR ks M ls R) (hb : Below C w w') (hC : B ≤ C) : Lk w' T B g b v1 v2 v3 vR ks M ls R :=
  ⟨h.blk.below hb (by have := h.lt; omega), h.lt, h.s1.below hb hC, h.s2.below hb hC, h.s3.below hb hC, h.sR.below hb hC⟩
theorem Lk.drew {w : World} {T : TypeId} {B g : Nat} {b : Int} {v1 v2 v3 vR : Value} {ks M ls : List Int} {R : List (List Int)} (h : Lk w T B g b v1 v2 v3 vR ks M ls R) (n : Nat) : Lk (w.drewN n) T B g b v1 v2 v3 vR ks M ls R :=
  ⟨h.blk, h.lt, h.s1, h.s2, h.s3, h.sR⟩

theorem ahead_take (ls : List Int) (b : Int) (p : Nat) : ∀ k, k ≤ p → aheadN (ls.take p) b k = aheadN ls b k
  | 0, _ => rfl
  | k + 1, h => by
    show (if nth (ls.take p) k = -1 then _ else _) = (if nth ls k = -1 then _ else _)
    rw [nth_take ls p k (by omega), ahead_take ls b p k (by omega)]
theorem ahead_skip (ls : List Int) (b : Int) (m : Nat) : ∀ j, j ≤ m → (∀ x ∈ dn m j, nth ls x = -1) → aheadN ls b m = aheadN ls b (m - j)
  | 0, _, _ => rfl
  | j + 1, h, hs => by
    rw [dn_succ] at hs
    rw [ahead_skip ls b m j (by omega) fun x hx => hs x (List.mem_append_left _ hx)]
    have h1 := hs (m - 1 - j) (by simp)
    have e : m - j = (m - 1 - j) + 1 := by omega
    rw [e]
    show (if _ then _ else _) = _
    rw [if_pos h1]
    congr 1
    omega
theorem ahead_hit (ls : List Int) (b : Int) (m j : Nat) (h : j < m) (hs : ∀ x ∈ dn m j, nth ls x = -1) (hx : nth ls (m - 1 - j) ≠ -1) : aheadN ls b m = nth ls (m - 1 - j) := by
  rw [ahead_skip ls b m j (by omega) hs]
  have e : m - j = (m - 1 - j) + 1 := by omega
  rw [e]
  show (if _ then _ else _) = _
  rw [if_neg hx]

section
variable {w : World} {B g : Nat} {b : Int} {v1 v2 v3 vR : Value} {ks M ls : List Int} {R : List (List Int)}
set_option maxRecDepth 100000 in
set_option maxHeartbeats 2000000 in
theorem levelAhead_any (h : Lk w 59 B g b v1 v2 v3 vR ks M ls R) (hB : B ≤ w.heap.size) (p : Nat) (hp : p ≤ ls.length) (hl : ls.length ≤ 600) (hcp : ∀ A c, v3 = .slice A ls.length c → ls.length ≤ c) :
    Calls Try.prog 75 #[.pointer (some ⟨g, 0, none⟩), .int .i64 p] w fun e w' => e = .returned (.int .i64 (aheadN ls b p)) ∧ Below w.heap.size w w' := by
  have glt := h.lt
  obtain ⟨A3, c3, rfl, r3⟩ := h.s3
  have cc := hcp A3 c3 rfl
  have AT := Lib.hid (ahead_take ls b p p (Nat.le_refl _))
  obtain ⟨zs, hzs⟩ : ∃ zs, Hid (zs = ls.take p) := ⟨_, Lib.hid rfl⟩
  have hzl : zs.length = p := by rw [hzs.out, List.length_take]; omega
  have RZ : Hid (Rd w B A3 (nums .i64 zs)) := Lib.hid (by rw [hzs.out]; have := r3.take p; simpa [nums, List.map_take] using this)
  rw [← hzs.out] at AT
  subst hzl
  rw [← AT.out]
  have H := Lib.hid h
  clear r3 h hcp
  have H1 := Lib.hid (H.out.below ((Below.refl B w).alloc hB (.cells #[.int .i64 0] 2)) (Nat.le_refl _))
  have e3 := H1.out.blk.cell 3 (u := .slice A3 ls.length c3) rfl
  rw [← callsIn_wide (n := 5)]
  refine callsIn_of_wp_marks Try.func75 rfl trivial ?_ rfl
  simp only [Try.ntmps75, List.size_toArray, List.length_cons, List.length_nil, Nat.reduceAdd, Nat.reduceSub, Array.replicate_succ, Array.replicate_zero, List.push_toArray, List.append_toArray, List.nil_append, List.cons_append]
  gi_wp2_with (refine ⟨trivial, ?_⟩; gi_at_call 96; refine (callsIn_wide.2 (backward_any A3 zs.length c3 _)).mono ?_; rintro e w' ⟨rfl, rfl⟩)
  clear e3
  have bR := Boxed.new w 2 (.int .i64 0)
  have bN := Boxed.new (w.alloc (.cells #[.int .i64 0] 2)) 22 (.slice A3 zs.length c3)
  rw [World.size_alloc] at bN
  have hB0 : Below w.heap.size w ((w.alloc (.cells #[.int .i64 0] 2)).alloc (.cells #[.slice A3 zs.length c3] 22)) := ((Below.refl _ w).alloc (Nat.le_refl _) _).alloc (by simp) _
  have H2 := Lib.hid (H.out.below hB0 hB)
  have RZ2 : Hid (Rd ((w.alloc (.cells #[.int .i64 0] 2)).alloc (.cells #[.slice A3 zs.length c3] 22)) (w.heap.size + 2) A3 (nums .i64 zs)) := Lib.hid ((RZ.out.below hB0 hB).more (by omega))
  refine wpIn_rangeFunc_ownG rfl (by omega) (gf := 109) (lb := #[.pointer (some ⟨w.heap.size + 1, 0, none⟩)]) rfl trivial (enters_of Try.func109 (by kernel_rfl) rfl)
    (back_stops 4 (by omega) (w.heap.size + 1) (w.heap.size + 2) c3 A3 zs (by omega) _ (by omega) (by simp) bN.cell RZ2.out) belowK_t (belowK_b (by simp)) (Below.refl _ _) (fun _ => rfl)
    (fun pre W => ((∀ x ∈ pre, nth zs x = -1) ∧ W.cell? ⟨w.heap.size, 0, none⟩ = some (.int .i64 0) ∧ W.frozen? ⟨w.heap.size, 0, none⟩ = false) ∧ Below w.heap.size w W)
    (fun c pre W => (c = .ret ∧ ∃ ini last, pre = ini ++ [last] ∧ (∀ x ∈ ini, nth zs x = -1) ∧ nth zs last ≠ -1 ∧ W.cell? ⟨w.heap.size, 0, none⟩ = some (.int .i64 (nth zs last))) ∧ Below w.heap.size w W)
    (OwnFrom.and (Own.from (fun s A B row hs hg hr => ⟨hs.1, cell_kept hs.2.1 hg hr, (frozen_kept hs.2.1 hg hr).trans hs.2.2⟩) _) (ownFrom_below (Nat.le_refl _) (by simp; omega)))
    (fun c => OwnFrom.and (Own.from (fun s A B row hs hg hr => by obtain ⟨hc, ini, last, e1, e2, e3, e4⟩ := hs; exact ⟨hc, ini, last, e1, e2, e3, cell_kept e4 hg hr⟩) _) (ownFrom_below (Nat.le_refl _) (by simp; omega)))
    ⟨⟨by simp, (bR.alloc _).cell, (bR.alloc _).frozen⟩, hB0⟩
    (fun x => { tmps := #[.pointer (some ⟨g, 0, none⟩), .int .i64 zs.length, undef, undef, .pointer (some ⟨w.heap.size, 0, none⟩), undef, .int .i64 (nth zs x), .pointer (some ⟨g, 0, none⟩), .pointer (some ⟨g, 0, none⟩), .pointer (some ⟨g, 3, none⟩), .slice A3 ls.length c3, .int .i64 zs.length, .slice A3 zs.length c3, .func (.func 109) #[] #[.pointer (some ⟨w.heap.size + 1, 0, none⟩)], .int .i64 (x : Int), .int .i64 (nth zs x), undef, undef, undef, undef, undef, undef, undef], defers := [] }) ?assign ?body ?done ?stop
  case assign =>
    intro l x W K hK
    gi_wp2
    exact hK
  case body =>
    rintro l pre x W ⟨⟨hp', hcr, hfr⟩, hBW⟩ _
    by_cases hx : nth zs x = -1
    · have hxe : (nth zs x != -1) = false := by simp [hx]
      have HX := Lib.hid hx
      obtain ⟨q, hq⟩ : ∃ q, Hid (q = nth zs x) := ⟨_, Lib.hid rfl⟩
      rw [← hq.out] at hxe ⊢
      clear hx
      gi_wp2
      exact ⟨KeepsFrom.refl _ _, Below.refl _ _, ⟨fun y hy => (List.mem_append.1 hy).elim (hp' y) (fun e => by simp at e; subst e; exact HX.out), hcr, hfr⟩, hBW⟩
    · have hxe : (nth zs x != -1) = true := by simpa using hx
      have HX := Lib.hid hx
      obtain ⟨q, hq⟩ : ∃ q, Hid (q = nth zs x) := ⟨_, Lib.hid rfl⟩
      rw [← hq.out] at hxe ⊢
      clear hx
      gi_wp2
      exact ⟨(KeepsOthers.setCell _ _ _).from _, ⟨rfl, pre, x, rfl, hp', HX.out, by rw [← hq.out]; exact World.cell?_setCell_same' _ _ _ (by rw [hcr]; rfl)⟩, hBW.setCell (p := ⟨w.heap.size, 0, none⟩) (Nat.le_refl _) _⟩
  case done =>
    rintro D ys W hD rfl ⟨⟨hne, hcr, hfr⟩, hBW⟩ hK
    have H3 := H.out.below hBW hB
    have e0 := H3.blk.cell 0 (u := .int .i64 b) rfl
    have E := Lib.hid (show aheadN zs b zs.length = b by rw [ahead_skip zs b zs.length zs.length (Nat.le_refl _) hne, Nat.sub_self]; rfl)
    clear hne
    gi_wp2
    have hK' := (KeepsOthers.setCell W ⟨w.heap.size, 0, none⟩ (.int .i64 b)).same D _ hK rfl
    refine ⟨by simp, .inl ⟨_, _, rfl, run_takeDeferred hK', ?_⟩⟩
    have hc5 := cell_kept (World.cell?_setCell_same' W ⟨w.heap.size, 0, none⟩ (.int .i64 b) (by rw [hcr]; rfl)) (grownBy_putObj' _ D (.deferred none)) (fun r e => by cases e; exact ⟨_, hK', rfl⟩)
    refine ⟨.int .i64 b, ?_, rint E.out.symm, (hBW.setCell (p := ⟨w.heap.size, 0, none⟩) (Nat.le_refl _) _).trans (belowK_b (w := w) (Nat.le_refl _) _ D _ _ (by simp at hD; omega) hK' rfl rfl)⟩
    simp [results, Try.results75, go_sem, hc5]
  case stop =>
    rintro D c pre W hD ⟨k, hk, rfl⟩ ⟨⟨rfl, ini, last, e1, e2, e3, hcr⟩, hBW⟩ hK
    obtain ⟨k', rfl⟩ : ∃ k', k = k' + 1 := by
      cases k with
      | zero => simp [dn] at e1
      | succ k' => exact ⟨k', rfl⟩
    rw [dn_succ] at e1
    obtain ⟨rfl, e5⟩ := List.append_inj' e1 rfl
    obtain rfl : zs.length - 1 - k' = last := by simpa using e5
    have E := Lib.hid (ahead_hit zs b zs.length k' (by omega) e2 e3)
    obtain ⟨q, hq⟩ : ∃ q, Hid (q = nth zs (zs.length - 1 - k')) := ⟨_, Lib.hid rfl⟩
    rw [← hq.out] at hcr E
    clear e1 e2 e3 e5
    gi_wp2
    refine ⟨by simp, .inl ⟨_, _, rfl, run_takeDeferred hK, ?_⟩⟩
    have hc5 := cell_kept hcr (grownBy_putObj' _ D (.deferred none)) (fun r e => by cases e; exact ⟨_, hK, rfl⟩)
    refine ⟨.int .i64 q, ?_, rint E.out.symm, hBW.trans (belowK_b (w := w) (Nat.le_refl _) W D _ _ (by simp at hD; omega) hK rfl rfl)⟩
    simp [results, Try.results75, go_sem, hc5]
end
end Go.Proofs.Ythhbikilighemaa
