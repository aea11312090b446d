/- Chapter 7: the program's last side ahead. -/
import Derived.Test.YtkkojemnbcddfaaZ1
namespace Go.Proofs.Ytkkojemnbcddfaa
open Go.RowKit Go.Shelf
attribute [local go_sem] Oper.semAt_some

theorem aheadS_skip (ls : List Int) (b : Int) (m : Nat) : ∀ j, j ≤ m → (∀ x ∈ dn m j, sideC (nth ls x) = -1) → aheadS ls b m = aheadS ls b (m - j)
  | 0, _, _ => rfl
  | j + 1, h, hs => by
    rw [dn_succ] at hs
    rw [aheadS_skip ls b m j (by omega) fun x hx => hs x (List.mem_append_left _ hx)]
    have h1 := hs (m - 1 - j) (by simp)
    have e : m - j = (m - 1 - j) + 1 := by omega
    rw [e, aheadS_miss (by rw [h1]; omega)]
    congr 1
    omega
theorem aheadS_at (ls : List Int) (b : Int) (m j : Nat) (h : j < m) (hs : ∀ x ∈ dn m j, sideC (nth ls x) = -1) (hx : sideC (nth ls (m - 1 - j)) ≠ -1) : aheadS ls b m = sideC (nth ls (m - 1 - j)) := by
  rw [aheadS_skip ls b m j (by omega) hs]
  have e : m - j = (m - 1 - j) + 1 := by omega
  rw [e, aheadS_hit (by rcases sideC_cases (nth ls (m - 1 - j)) with q | q | q <;> omega)]
theorem aheadS_take (ls : List Int) (b : Int) (p : Nat) : ∀ k, k ≤ p → aheadS (ls.take p) b k = aheadS ls b k
  | 0, _ => rfl
  | k + 1, h => by
    by_cases hs : 0 ≤ sideC (nth ls k)
    · rw [aheadS_hit hs, aheadS_hit (by rw [nth_take ls p k (by omega)]; exact hs), nth_take ls p k (by omega)]
    · rw [aheadS_miss hs, aheadS_miss (by rw [nth_take ls p k (by omega)]; exact hs), aheadS_take ls b p k (by omega)]
theorem sidesAt_any (A : Option Addr) (n c : Nat) (s : Int) (w : World) : Calls Try.prog 37 #[.slice A n c, .int .i64 s] w fun e w' => e = .returned (.func (.func 44) #[] #[.pointer (some ⟨w.heap.size, 0, none⟩), .pointer (some ⟨w.heap.size + 1, 0, none⟩)]) ∧ (w.alloc (.cells #[.slice A n c] 22)).alloc (.cells #[.int .i64 s] 2) = w' := by
  go_enter Try.func37, Try.ntmps37
  go_wp2
  go_ret
  exact ⟨rfl, rfl⟩
set_option maxRecDepth 100000 in
set_option maxHeartbeats 1000000 in
/-- the side at a place, or that of the edge -/
theorem sidesAt1_any (A : Option Addr) (l : List Int) (c g h : Nat) (s i : Int) (w : World) (B : Nat) (hr : Rd w B A (nums .i64 l)) (h1 : w.cell? ⟨g, 0, none⟩ = some (.slice A l.length c)) (h2 : w.cell? ⟨h, 0, none⟩ = some (.int .i64 s)) (hl : l.length ≤ 600) (hg : g < w.heap.size) (hh : h < w.heap.size) (hB : B ≤ w.heap.size) :
    Calls Try.prog 44 #[.int .i64 i, .pointer (some ⟨g, 0, none⟩), .pointer (some ⟨h, 0, none⟩)] w fun e w' => e = .returned (.int .i64 (nearS l i s)) ∧ Below w.heap.size w w' := by
  have H1 := Lib.hid h1
  have HR := Lib.hid hr
  have b1 := (Below.refl w.heap.size w).alloc (Nat.le_refl _) (.cells #[.int .i64 0, .int .i64 ((l.length : Int) - 1)] 2)
  have k1 : (w.alloc (.cells #[.int .i64 0, .int .i64 ((l.length : Int) - 1)] 2)).cell? ⟨g, 0, none⟩ = some (.slice A l.length c) := (b1.cell (p := ⟨g, 0, none⟩) hg).trans h1
  have k2 : (w.alloc (.cells #[.int .i64 0, .int .i64 ((l.length : Int) - 1)] 2)).cell? ⟨h, 0, none⟩ = some (.int .i64 s) := (b1.cell (p := ⟨h, 0, none⟩) hh).trans h2
  have HR1 := Lib.hid (hr.below b1 hB)
  clear hr
  by_cases hi : 0 ≤ i ∧ i < l.length
  · have hsp := Lib.hid (show spans i [0, (l.length : Int) - 1] = true by simp [spans]; omega)
    obtain ⟨k, rfl⟩ : ∃ k : Nat, i = (k : Int) := ⟨i.toNat, by omega⟩
    have hk : k < l.length := by omega
    have NE := Lib.hid (show nearS l (k : Int) s = if 0 ≤ sideC (nth l k) then sideC (nth l k) else s by
      unfold nearS
      rw [Int.toNat_natCast]
      by_cases hq : 0 ≤ sideC (nth l k)
      · rw [if_pos hq, if_pos ⟨by omega, by omega, hq⟩]
      · rw [if_neg hq, if_neg (fun x => hq x.2.2)])
    obtain ⟨b', off, rfl, hb', hc⟩ := HR1.out.int (by omega)
    have hc0 := hc k hk
    have SC := Lib.hid (fun w => sideOfClass_any (nth l k) w)
    have CS := sideC_cases (nth l k)
    obtain ⟨d, hd⟩ : ∃ d, Hid (d = sideC (nth l k)) := ⟨_, Lib.hid rfl⟩
    rw [← hd.out] at NE SC CS
    obtain ⟨q, hq⟩ : ∃ q, Hid (q = nth l k) := ⟨_, Lib.hid rfl⟩
    rw [← hq.out] at hc0 SC
    clear hc hi
    by_cases hds : d = -1
    · have E := Lib.hid (show nearS l (k : Int) s = s by rw [NE.out, if_neg (by omega)])
      subst hds
      clear CS
      go_enter Try.func44, Try.ntmps44
      go_wp2_with (first
        | (go_at_call 24; (with_reducible refine (within_lit2 _ _ _ _ _ _ (by simp)).mono ?_); rintro e w' ⟨rfl, rfl⟩; rw [hsp.out])
        | (go_at_call 45; refine (SC.out _).mono ?_; rintro e w' ⟨rfl, rfl⟩))
      go_ret
      exact ⟨rint E.out.symm, b1⟩
    · have E := Lib.hid (show nearS l (k : Int) s = d by rw [NE.out, if_pos (by omega)])
      have dn : (d != -1) = true := by simpa using hds
      clear CS hds
      go_enter Try.func44, Try.ntmps44
      go_wp2_with (first
        | (go_at_call 24; (with_reducible refine (within_lit2 _ _ _ _ _ _ (by simp)).mono ?_); rintro e w' ⟨rfl, rfl⟩; rw [hsp.out])
        | (go_at_call 45; refine (SC.out _).mono ?_; rintro e w' ⟨rfl, rfl⟩))
      go_ret
      exact ⟨rint E.out.symm, b1⟩
  · have hsp := Lib.hid (show spans i [0, (l.length : Int) - 1] = false by simp [spans]; omega)
    have E := Lib.hid (show nearS l i s = s by unfold nearS; rw [if_neg (fun x => hi ⟨x.1, x.2.1⟩)])
    clear hi
    go_enter Try.func44, Try.ntmps44
    go_wp2_with (go_at_call 24; (with_reducible refine (within_lit2 _ _ _ _ _ _ (by simp)).mono ?_); rintro e w' ⟨rfl, rfl⟩; rw [hsp.out])
    go_ret
    exact ⟨rint E.out.symm, b1⟩
end Go.Proofs.Ytkkojemnbcddfaa
