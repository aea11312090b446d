/- Chapter 7: the program's last side ahead. -/
import Derived.Test.YtkkojemnbcddfaaDoorZ1
namespace Go.Proofs.YtkkojemnbcddfaaDoor
open Go.RowKit Go.Shelf
attribute [local go_sem] Oper.semAt_some

theorem aheadS_skip (ls : List Int) (b : Int) (m : Nat) : ∀ j, j ≤ m → (∀ x ∈ dn m j, sideC (nth ls x) = -1) → aheadS ls b m = aheadS ls b (m - j)
  | 0, _, _ => rfl
  | j + 1, h, hs => by
    rw [dn_succ] at hs
    rw [aheadS_skip ls b m j (by omega) fun x hx => hs x (List.mem_append_left _ hx)]
    have h1 := hs (m - 1 - j) (by simp)
    have e : m - j = (m - 1 - j) + 1 := by omega
    rw [e, aheadS_miss (by rw [h1]; omega)]
    congr 1
    omega
theorem aheadS_at (ls : List Int) (b : Int) (m j : Nat) (h : j < m) (hs : ∀ x ∈ dn m j, sideC (nth ls x) = -1) (hx : sideC (nth ls (m - 1 - j)) ≠ -1) : aheadS ls b m = sideC (nth ls (m - 1 - j)) := by
  rw [aheadS_skip ls b m j (by omega) hs]
  have e : m - j = (m - 1 - j) + 1 := by omega
  rw [e, aheadS_hit (by rcases sideC_cases (nth ls (m - 1 - j)) with q | q | q <;> omega)]
theorem aheadS_take (ls : List Int) (b : Int) (p : Nat) : ∀ k, k ≤ p → aheadS (ls.take p) b k = aheadS ls b k
  | 0, _ => rfl
  | k + 1, h => by
    by_cases hs : 0 ≤ sideC (nth ls k)
    · rw [aheadS_hit hs, aheadS_hit (by rw [nth_take ls p k (by omega)]; exact hs), nth_take ls p k (by omega)]
    · rw [aheadS_miss hs, aheadS_miss (by rw [nth_take ls p k (by omega)]; exact hs), aheadS_take ls b p k (by omega)]
set_option maxRecDepth 100000 in
set_option maxHeartbeats 2000000 in
theorem lastSide_any (A3 : Option Addr) (zs : List Int) (c3 : Nat) (b : Int) (w : World) (B : Nat) (hr : Rd w B A3 (nums .i64 zs)) (hB : B ≤ w.heap.size) (hl : zs.length ≤ 600) :
    Calls Tryd.prog 92 #[.slice A3 zs.length c3, .int .i64 b] w fun e w' => e = .returned (.int .i64 (aheadS zs b zs.length)) ∧ Below w.heap.size w w' := by
  have RZ := Lib.hid hr
  clear hr
  rw [← callsIn_wide (n := 5)]
  refine callsIn_of_wp_marks Tryd.func92 rfl trivial ?_ rfl
  simp only [Tryd.ntmps92, List.size_toArray, List.length_cons, List.length_nil, Nat.reduceAdd, Nat.reduceSub, Array.replicate_succ, Array.replicate_zero, List.push_toArray, List.append_toArray, List.nil_append, List.cons_append]
  gi_wp2_with (refine ⟨trivial, ?_⟩; gi_at_call 115; refine (callsIn_wide.2 (backward_any A3 zs.length c3 _)).mono ?_; rintro e w' ⟨rfl, rfl⟩)
  have bR := Boxed.new w 2 (.int .i64 0)
  have bN := Boxed.new (w.alloc (.cells #[.int .i64 0] 2)) 24 (.slice A3 zs.length c3)
  rw [World.size_alloc] at bN
  have hB0 : Below w.heap.size w ((w.alloc (.cells #[.int .i64 0] 2)).alloc (.cells #[.slice A3 zs.length c3] 24)) := ((Below.refl _ w).alloc (Nat.le_refl _) _).alloc (by simp) _
  have RZ2 : Hid (Rd ((w.alloc (.cells #[.int .i64 0] 2)).alloc (.cells #[.slice A3 zs.length c3] 24)) (w.heap.size + 2) A3 (nums .i64 zs)) := Lib.hid ((RZ.out.below hB0 hB).more (by omega))
  refine wpIn_rangeFunc_ownG rfl (by omega) (gf := 123) (lb := #[.pointer (some ⟨w.heap.size + 1, 0, none⟩)]) rfl trivial (enters_of Tryd.func123 (by kernel_rfl) rfl)
    (back_stops 4 (by omega) (w.heap.size + 1) (w.heap.size + 2) c3 A3 zs (by omega) _ (by omega) (by simp) bN.cell RZ2.out) belowK_t (belowK_b (by simp)) (Below.refl _ _) (fun _ => rfl)
    (fun pre W => ((∀ x ∈ pre, sideC (nth zs x) = -1) ∧ W.cell? ⟨w.heap.size, 0, none⟩ = some (.int .i64 0) ∧ W.frozen? ⟨w.heap.size, 0, none⟩ = false) ∧ Below w.heap.size w W)
    (fun c pre W => (c = .ret ∧ ∃ ini last, pre = ini ++ [last] ∧ (∀ x ∈ ini, sideC (nth zs x) = -1) ∧ sideC (nth zs last) ≠ -1 ∧ W.cell? ⟨w.heap.size, 0, none⟩ = some (.int .i64 (sideC (nth zs last)))) ∧ Below w.heap.size w W)
    (OwnFrom.and (Own.from (fun s A B row hs hg hr => ⟨hs.1, cell_kept hs.2.1 hg hr, (frozen_kept hs.2.1 hg hr).trans hs.2.2⟩) _) (ownFrom_below (Nat.le_refl _) (by simp; omega)))
    (fun c => OwnFrom.and (Own.from (fun s A B row hs hg hr => by obtain ⟨hc, ini, last, e1, e2, e3, e4⟩ := hs; exact ⟨hc, ini, last, e1, e2, e3, cell_kept e4 hg hr⟩) _) (ownFrom_below (Nat.le_refl _) (by simp; omega)))
    ⟨⟨by simp, (bR.alloc _).cell, (bR.alloc _).frozen⟩, hB0⟩
    (fun x => { tmps := #[.slice A3 zs.length c3, .int .i64 b, undef, undef, .pointer (some ⟨w.heap.size, 0, none⟩), undef, .int .i64 (nth zs x), undef, .slice A3 zs.length c3, .func (.func 123) #[] #[.pointer (some ⟨w.heap.size + 1, 0, none⟩)], .int .i64 (x : Int), .int .i64 (nth zs x), undef, undef, undef, undef, undef, undef], defers := [] }) ?assign ?body ?done ?stop
  case assign =>
    intro l x W K hK
    gi_wp2
    exact hK
  case body =>
    rintro l pre x W ⟨⟨hp', hcr, hfr⟩, hBW⟩ _
    by_cases hx : sideC (nth zs x) = -1
    · have HX := Lib.hid hx
      obtain ⟨q, hq⟩ : ∃ q, Hid (q = nth zs x) := ⟨_, Lib.hid rfl⟩
      rw [← hq.out] at hx ⊢
      have SC := Lib.hid (show ∀ W : World, Calls Tryd.prog 94 #[.int .i64 q] W fun e w' => e = .returned (.int .i64 (-1)) ∧ W = w' from fun W => by rw [← hx]; exact sideOfClass_any q W)
      clear hx
      gi_wp2_with (refine ⟨trivial, ?_⟩; gi_at_call 94; refine (callsIn_wide.2 (SC.out _)).mono ?_; rintro e w' ⟨rfl, rfl⟩)
      exact ⟨KeepsFrom.refl _ _, Below.refl _ _, ⟨fun y hy => (List.mem_append.1 hy).elim (hp' y) (fun e => by simp at e; subst e; exact HX.out), hcr, hfr⟩, hBW⟩
    · have HX := Lib.hid hx
      obtain ⟨d, hd⟩ : ∃ d, Hid (d = sideC (nth zs x)) := ⟨_, Lib.hid rfl⟩
      have DX := Lib.hid hd.out
      rw [← hd.out] at hx
      obtain ⟨q, hq⟩ : ∃ q, Hid (q = nth zs x) := ⟨_, Lib.hid rfl⟩
      rw [← hq.out] at hd ⊢
      have SC := Lib.hid (show ∀ W : World, Calls Tryd.prog 94 #[.int .i64 q] W fun e w' => e = .returned (.int .i64 d) ∧ W = w' from fun W => by rw [hd.out]; exact sideOfClass_any q W)
      have hxe : (d != -1) = true := by simpa using hx
      clear hx hd
      gi_wp2_with (refine ⟨trivial, ?_⟩; gi_at_call 94; refine (callsIn_wide.2 (SC.out _)).mono ?_; rintro e w' ⟨rfl, rfl⟩)
      exact ⟨(KeepsOthers.setCell _ _ _).from _, ⟨rfl, pre, x, rfl, hp', HX.out, by rw [← DX.out]; exact World.cell?_setCell_same' _ _ _ (by rw [hcr]; rfl)⟩, hBW.setCell (p := ⟨w.heap.size, 0, none⟩) (Nat.le_refl _) _⟩
  case done =>
    rintro D ys W hD rfl ⟨⟨hne, hcr, hfr⟩, hBW⟩ hK
    have E := Lib.hid (show aheadS zs b zs.length = b by rw [aheadS_skip zs b zs.length zs.length (Nat.le_refl _) hne, Nat.sub_self]; rfl)
    clear hne
    gi_wp2
    have hK' := (KeepsOthers.setCell W ⟨w.heap.size, 0, none⟩ (.int .i64 b)).same D _ hK rfl
    refine ⟨by simp, .inl ⟨_, _, rfl, run_takeDeferred hK', ?_⟩⟩
    have hc5 := cell_kept (World.cell?_setCell_same' W ⟨w.heap.size, 0, none⟩ (.int .i64 b) (by rw [hcr]; rfl)) (grownBy_putObj' _ D (.deferred none)) (fun r e => by cases e; exact ⟨_, hK', rfl⟩)
    refine ⟨.int .i64 b, ?_, rint E.out.symm, (hBW.setCell (p := ⟨w.heap.size, 0, none⟩) (Nat.le_refl _) _).trans (belowK_b (w := w) (Nat.le_refl _) _ D _ _ (by simp at hD; omega) hK' rfl rfl)⟩
    simp [results, Tryd.results92, go_sem, hc5]
  case stop =>
    rintro D c pre W hD ⟨k, hk, rfl⟩ ⟨⟨rfl, ini, last, e1, e2, e3, hcr⟩, hBW⟩ hK
    obtain ⟨k', rfl⟩ : ∃ k', k = k' + 1 := by
      cases k with
      | zero => simp [dn] at e1
      | succ k' => exact ⟨k', rfl⟩
    rw [dn_succ] at e1
    obtain ⟨rfl, e5⟩ := List.append_inj' e1 rfl
    obtain rfl : zs.length - 1 - k' = last := by simpa using e5
    have E := Lib.hid (aheadS_at zs b zs.length k' (by omega) e2 e3)
    obtain ⟨q, hq⟩ : ∃ q, Hid (q = sideC (nth zs (zs.length - 1 - k'))) := ⟨_, Lib.hid rfl⟩
    rw [← hq.out] at hcr E
    clear e1 e2 e3 e5
    gi_wp2
    refine ⟨by simp, .inl ⟨_, _, rfl, run_takeDeferred hK, ?_⟩⟩
    have hc5 := cell_kept hcr (grownBy_putObj' _ D (.deferred none)) (fun r e => by cases e; exact ⟨_, hK, rfl⟩)
    refine ⟨.int .i64 q, ?_, rint E.out.symm, hBW.trans (belowK_b (w := w) (Nat.le_refl _) W D _ _ (by simp at hD; omega) hK rfl rfl)⟩
    simp [results, Tryd.results92, go_sem, hc5]
theorem sidesAt_any (A : Option Addr) (n c : Nat) (s : Int) (w : World) : Calls Tryd.prog 74 #[.slice A n c, .int .i64 s] w fun e w' => e = .returned (.func (.func 93) #[] #[.pointer (some ⟨w.heap.size, 0, none⟩), .pointer (some ⟨w.heap.size + 1, 0, none⟩)]) ∧ (w.alloc (.cells #[.slice A n c] 24)).alloc (.cells #[.int .i64 s] 2) = w' := by
  go_enter Tryd.func74, Tryd.ntmps74
  go_wp2
  go_ret
  exact ⟨rfl, rfl⟩
set_option maxRecDepth 100000 in
set_option maxHeartbeats 1000000 in
/-- the side at a place, or that of the edge -/
theorem sidesAt1_any (A : Option Addr) (l : List Int) (c g h : Nat) (s i : Int) (w : World) (B : Nat) (hr : Rd w B A (nums .i64 l)) (h1 : w.cell? ⟨g, 0, none⟩ = some (.slice A l.length c)) (h2 : w.cell? ⟨h, 0, none⟩ = some (.int .i64 s)) (hl : l.length ≤ 600) (hg : g < w.heap.size) (hh : h < w.heap.size) (hB : B ≤ w.heap.size) :
    Calls Tryd.prog 93 #[.int .i64 i, .pointer (some ⟨g, 0, none⟩), .pointer (some ⟨h, 0, none⟩)] w fun e w' => e = .returned (.int .i64 (nearS l i s)) ∧ Below w.heap.size w w' := by
  have H1 := Lib.hid h1
  have HR := Lib.hid hr
  have b1 := (Below.refl w.heap.size w).alloc (Nat.le_refl _) (.cells #[.int .i64 0, .int .i64 ((l.length : Int) - 1)] 2)
  have k1 : (w.alloc (.cells #[.int .i64 0, .int .i64 ((l.length : Int) - 1)] 2)).cell? ⟨g, 0, none⟩ = some (.slice A l.length c) := (b1.cell (p := ⟨g, 0, none⟩) hg).trans h1
  have k2 : (w.alloc (.cells #[.int .i64 0, .int .i64 ((l.length : Int) - 1)] 2)).cell? ⟨h, 0, none⟩ = some (.int .i64 s) := (b1.cell (p := ⟨h, 0, none⟩) hh).trans h2
  have HR1 := Lib.hid (hr.below b1 hB)
  clear hr
  by_cases hi : 0 ≤ i ∧ i < l.length
  · have hsp := Lib.hid (show spans i [0, (l.length : Int) - 1] = true by simp [spans]; omega)
    obtain ⟨k, rfl⟩ : ∃ k : Nat, i = (k : Int) := ⟨i.toNat, by omega⟩
    have hk : k < l.length := by omega
    have NE := Lib.hid (show nearS l (k : Int) s = if 0 ≤ sideC (nth l k) then sideC (nth l k) else s by
      unfold nearS
      rw [Int.toNat_natCast]
      by_cases hq : 0 ≤ sideC (nth l k)
      · rw [if_pos hq, if_pos ⟨by omega, by omega, hq⟩]
      · rw [if_neg hq, if_neg (fun x => hq x.2.2)])
    obtain ⟨b', off, rfl, hb', hc⟩ := HR1.out.int (by omega)
    have hc0 := hc k hk
    have SC := Lib.hid (fun w => sideOfClass_any (nth l k) w)
    have CS := sideC_cases (nth l k)
    obtain ⟨d, hd⟩ : ∃ d, Hid (d = sideC (nth l k)) := ⟨_, Lib.hid rfl⟩
    rw [← hd.out] at NE SC CS
    obtain ⟨q, hq⟩ : ∃ q, Hid (q = nth l k) := ⟨_, Lib.hid rfl⟩
    rw [← hq.out] at hc0 SC
    clear hc hi
    by_cases hds : d = -1
    · have E := Lib.hid (show nearS l (k : Int) s = s by rw [NE.out, if_neg (by omega)])
      subst hds
      clear CS
      go_enter Tryd.func93, Tryd.ntmps93
      go_wp2_with (first
        | (go_at_call 40; (with_reducible refine (within_lit2 _ _ _ _ _ _ (by simp)).mono ?_); rintro e w' ⟨rfl, rfl⟩; rw [hsp.out])
        | (go_at_call 94; refine (SC.out _).mono ?_; rintro e w' ⟨rfl, rfl⟩))
      go_ret
      exact ⟨rint E.out.symm, b1⟩
    · have E := Lib.hid (show nearS l (k : Int) s = d by rw [NE.out, if_pos (by omega)])
      have dn : (d != -1) = true := by simpa using hds
      clear CS hds
      go_enter Tryd.func93, Tryd.ntmps93
      go_wp2_with (first
        | (go_at_call 40; (with_reducible refine (within_lit2 _ _ _ _ _ _ (by simp)).mono ?_); rintro e w' ⟨rfl, rfl⟩; rw [hsp.out])
        | (go_at_call 94; refine (SC.out _).mono ?_; rintro e w' ⟨rfl, rfl⟩))
      go_ret
      exact ⟨rint E.out.symm, b1⟩
  · have hsp := Lib.hid (show spans i [0, (l.length : Int) - 1] = false by simp [spans]; omega)
    have E := Lib.hid (show nearS l i s = s by unfold nearS; rw [if_neg (fun x => hi ⟨x.1, x.2.1⟩)])
    clear hi
    go_enter Tryd.func93, Tryd.ntmps93
    go_wp2_with (go_at_call 40; (with_reducible refine (within_lit2 _ _ _ _ _ _ (by simp)).mono ?_); rintro e w' ⟨rfl, rfl⟩; rw [hsp.out])
    go_ret
    exact ⟨rint E.out.symm, b1⟩
end Go.Proofs.YtkkojemnbcddfaaDoor
