/- Chapter 7: the program's PartFault; cmp.Or, cmp.Compare at int64. -/
import Derived.Test.YtkkojemnbcddfaaDoorZ1
import Derived.Test.YtkkojemnbcddfaaDoorE4
import Derived.Deep.RegionHeld3
namespace Go.Proofs.YtkkojemnbcddfaaDoor
open Go.RowKit Go.Maps

theorem side01 {zs : List Int} {s : Int} (h : classF zs s = 0) : s = 0 ∨ s = 1 := by have := (classF_zero h).2.2; omega
def orL : List Int → Int
  | [] => 0
  | x :: r => if x = 0 then orL r else x
set_option maxRecDepth 100000 in
set_option maxHeartbeats 1000000 in
theorem cmpOr_any (A : Option Addr) (ks : List Int) (c : Nat) (w : World) (B : Nat) (h1 : Rd w B A (nums .i64 ks)) (hl : ks.length ≤ 600) :
    Calls Tryd.prog 37 #[.slice A ks.length c] w fun e w' => e = .returned (.int .i64 (orL ks)) ∧ w = w' := by
  have H1 := Lib.hid h1
  clear h1
  obtain ⟨ans, hans⟩ : ∃ x, Hid (x = orL ks) := ⟨_, Lib.hid rfl⟩
  rw [← hans.out]
  have EL : Hid (ans = orL (ks.drop 0)) := hans
  go_enter Tryd.func37, Tryd.ntmps37
  go_wp2
  go_loop [8] (fun i => ∃ k : Nat, k ≤ ks.length ∧ i = .int .i64 k ∧ Hid (ans = orL (ks.drop k))) (fun i => ks.length - (intOf i).toNat)
  case atStart => exact ⟨0, by omega, rfl, EL⟩
  case round =>
    obtain ⟨k, hk, rfl, hs⟩ := hrel
    by_cases hlt : k < ks.length
    · obtain ⟨b', off, rfl, hb', hc⟩ := H1.out.int (by omega)
      have hc0 := hc k hlt
      clear hc
      have BC := Lib.hid (show orL (ks.drop k) = if nth ks k = 0 then orL (ks.drop (k + 1)) else nth ks k by rw [drop_nth ks k hlt]; rfl)
      obtain ⟨q, hq⟩ : ∃ q, Hid (q = nth ks k) := ⟨_, Lib.hid rfl⟩
      rw [← hq.out] at hc0 BC
      by_cases hz : q = 0
      · have nq : (q != 0) = false := by simp [hz]
        have E := Lib.hid (show ans = orL (ks.drop (k + 1)) by rw [hs.out, BC.out, if_pos hz])
        clear hz
        go_wp2
        go_round
        case rel => exact ⟨k + 1, by omega, by go_num, E⟩
        case measure => first | omega | (simp [intOf]; omega)
      · have nq : (q != 0) = true := by simpa using hz
        have E := Lib.hid (show ans = q by rw [hs.out, BC.out, if_neg hz])
        clear hz
        go_wp2
        go_ret
        exact ⟨rint E.out.symm, rfl⟩
    · have E := Lib.hid (show ans = 0 by rw [hs.out, List.drop_of_length_le (by omega)]; rfl)
      go_wp2
      go_ret
      exact ⟨rint E.out.symm, rfl⟩
theorem partF_or (p : Prt) (a b c : Int) (ha : a = textF p.T) (hb : b = classF p.F p.S) (hc : c = classF p.N p.E) :
    partF p = if orL [a, b, c] = 0 then (if p.F.length = p.T.length ∧ p.N.length = p.T.length then (if 0 ≤ p.L ∧ p.L ≤ 126 then 0 else 3) else 8) else orL [a, b, c] := by
  have e : orL [a, b, c] = if a = 0 then (if b = 0 then (if c = 0 then 0 else c) else b) else a := rfl
  unfold partF
  rw [← ha, ← hb, ← hc, e]
  by_cases h1 : a = 0
  · rw [if_pos h1, if_pos h1]
    by_cases h2 : b = 0
    · rw [if_pos h2, if_pos h2]
      by_cases h3 : c = 0
      · rw [if_pos h3, if_pos h3, if_pos rfl]
      · rw [if_neg h3, if_neg h3, if_neg h3]
    · rw [if_neg h2, if_neg h2, if_neg h2]
  · rw [if_neg h1, if_neg h1, if_neg h1]
set_option maxRecDepth 100000 in
set_option maxHeartbeats 4000000 in
theorem partFault_any (v0 v1 v2 : Value) (p : Prt) (w : World) (B : Nat) (h0 : Sees w B .i64 v0 p.T) (h1 : Sees w B .i64 v1 p.F) (h2 : Sees w B .i64 v2 p.N) (hB : B ≤ w.heap.size) (l0 : p.T.length < 1000000000) (l1 : p.F.length < 1000000000) (l2 : p.N.length < 1000000000) :
    Calls Tryd.prog 12 #[.agg #[v0, v1, v2, .int .i64 p.L, .int .i64 p.S, .int .i64 p.E]] w fun e w' => e = .returned (.int .i64 (partF p)) ∧ Below w.heap.size w w' := by
  have PT := Lib.hid (PtR.new w 26 B v0 v1 v2 p hB h0 h1 h2)
  have BW := Lib.hid ((Below.refl w.heap.size w).alloc (Nat.le_refl _) (.cells #[v0, v1, v2, .int .i64 p.L, .int .i64 p.S, .int .i64 p.E] 26))
  have SZ := World.size_alloc w (.cells #[v0, v1, v2, .int .i64 p.L, .int .i64 p.S, .int .i64 p.E] 26)
  obtain ⟨A0, c0, rfl, _⟩ := h0
  obtain ⟨A1, c1, rfl, _⟩ := h1
  obtain ⟨A2, c2, rfl, _⟩ := h2
  go_enter Tryd.func12, Tryd.ntmps12
  obtain ⟨a, ha⟩ : ∃ a, Hid (a = textF p.T) := ⟨_, Lib.hid rfl⟩
  obtain ⟨b, hb⟩ : ∃ b, Hid (b = classF p.F p.S) := ⟨_, Lib.hid rfl⟩
  obtain ⟨c, hc⟩ : ∃ c, Hid (c = classF p.N p.E) := ⟨_, Lib.hid rfl⟩
  have E := Lib.hid (partF_or p a b c ha.out hb.out hc.out)
  obtain ⟨r, hr⟩ : ∃ r, Hid (partF p = r) := ⟨_, Lib.hid rfl⟩
  rw [hr.out] at E ⊢
  go_wp2_with fail
  generalize hwa : w.alloc (.cells #[.slice A0 p.T.length c0, .slice A1 p.F.length c1, .slice A2 p.N.length c2, .int .i64 p.L, .int .i64 p.S, .int .i64 p.E] 26) = wa at *
  clear hwa
  have f0 := PT.out.blk.cell 0 (u := .slice A0 p.T.length c0) rfl
  have f1 := PT.out.blk.cell 1 (u := .slice A1 p.F.length c1) rfl
  have f2 := PT.out.blk.cell 2 (u := .slice A2 p.N.length c2) rfl
  have f4 := PT.out.blk.cell 4 (u := .int .i64 p.S) rfl
  have f5 := PT.out.blk.cell 5 (u := .int .i64 p.E) rfl
  have rd0 : ∀ W, PtR W 26 (w.heap.size + 1) w.heap.size (.slice A0 p.T.length c0) (.slice A1 p.F.length c1) (.slice A2 p.N.length c2) p → Rd W (w.heap.size + 1) A0 (nums .i64 p.T) := fun W h => by obtain ⟨A', c', e, r⟩ := h.s0; have := (sl_eq e).1; subst this; exact r
  have rd1 : ∀ W, PtR W 26 (w.heap.size + 1) w.heap.size (.slice A0 p.T.length c0) (.slice A1 p.F.length c1) (.slice A2 p.N.length c2) p → Rd W (w.heap.size + 1) A1 (nums .i64 p.F) := fun W h => by obtain ⟨A', c', e, r⟩ := h.s1; have := (sl_eq e).1; subst this; exact r
  have rd2 : ∀ W, PtR W 26 (w.heap.size + 1) w.heap.size (.slice A0 p.T.length c0) (.slice A1 p.F.length c1) (.slice A2 p.N.length c2) p → Rd W (w.heap.size + 1) A2 (nums .i64 p.N) := fun W h => by obtain ⟨A', c', e, r⟩ := h.s2; have := (sl_eq e).1; subst this; exact r
  have RD0 := Lib.hid rd0
  have RD1 := Lib.hid rd1
  have RD2 := Lib.hid rd2
  clear rd0 rd1 rd2
  have TF := Lib.hid (fun W (h : PtR W 26 (w.heap.size + 1) w.heap.size (.slice A0 p.T.length c0) (.slice A1 p.F.length c1) (.slice A2 p.N.length c2) p) (hs : w.heap.size + 1 ≤ W.heap.size) => textFault_any A0 p.T c0 W _ (RD0.out W h) hs l0)
  have CF := Lib.hid (fun W (h : PtR W 26 (w.heap.size + 1) w.heap.size (.slice A0 p.T.length c0) (.slice A1 p.F.length c1) (.slice A2 p.N.length c2) p) (hs : w.heap.size + 1 ≤ W.heap.size) => classesFault_any A1 p.F c1 p.S W _ (RD1.out W h) hs l1)
  have CN := Lib.hid (fun W (h : PtR W 26 (w.heap.size + 1) w.heap.size (.slice A0 p.T.length c0) (.slice A1 p.F.length c1) (.slice A2 p.N.length c2) p) (hs : w.heap.size + 1 ≤ W.heap.size) => classesFault_any A2 p.N c2 p.E W _ (RD2.out W h) hs l2)
  rw [← ha.out] at TF
  rw [← hb.out] at CF
  rw [← hc.out] at CN
  go_region_held3 (fun w' => w'.cell? ⟨w.heap.size, 0, none⟩ = some (.slice A0 p.T.length c0) ∧ w'.cell? ⟨w.heap.size, 1, none⟩ = some (.slice A1 p.F.length c1) ∧ w'.cell? ⟨w.heap.size, 2, none⟩ = some (.slice A2 p.N.length c2) ∧ w'.cell? ⟨w.heap.size, 4, none⟩ = some (.int .i64 p.S) ∧ w'.cell? ⟨w.heap.size, 5, none⟩ = some (.int .i64 p.E)) (first | exact ⟨f0, f1, f2, f4, f5⟩ | exact ⟨f01, f11, f21, f41, f51⟩ | exact ⟨f02, f12, f22, f42, f52⟩ | exact ⟨f03, f13, f23, f43, f53⟩ | exact ⟨f04, f14, f24, f44, f54⟩) (first
    | (go_at_call 38; refine (TF.out wa.drew (PT.out.drew 1) (by show _ ≤ wa.heap.size; omega)).mono ?_; rintro e w1 ⟨rfl, b1⟩
       have qb1 : Below wa.heap.size wa w1 := ⟨b1.os, b1.tape, b1.output, b1.size, b1.block⟩
       have P1 := Lib.hid (PT.out.below qb1 (by omega))
       have B1 := Lib.hid (BW.out.trans (qb1.mono (by omega)))
       have s1 := qb1.size
       have f01 := P1.out.blk.cell 0 (u := .slice A0 p.T.length c0) rfl
       have f11 := P1.out.blk.cell 1 (u := .slice A1 p.F.length c1) rfl
       have f21 := P1.out.blk.cell 2 (u := .slice A2 p.N.length c2) rfl
       have f41 := P1.out.blk.cell 4 (u := .int .i64 p.S) rfl
       have f51 := P1.out.blk.cell 5 (u := .int .i64 p.E) rfl
       clear b1 qb1 PT BW f0 f1 f2 f4 f5)
    | (go_at_call 39; refine (CF.out w1 P1.out (by omega)).mono ?_; rintro e w2 ⟨rfl, b2⟩
       have P2 := Lib.hid (P1.out.below b2 (by omega))
       have B2 := Lib.hid (below_on B1.out b2 (by omega))
       have s2 := b2.size
       have f02 := P2.out.blk.cell 0 (u := .slice A0 p.T.length c0) rfl
       have f12 := P2.out.blk.cell 1 (u := .slice A1 p.F.length c1) rfl
       have f22 := P2.out.blk.cell 2 (u := .slice A2 p.N.length c2) rfl
       have f42 := P2.out.blk.cell 4 (u := .int .i64 p.S) rfl
       have f52 := P2.out.blk.cell 5 (u := .int .i64 p.E) rfl
       clear b2 P1 B1 f01 f11 f21 f41 f51 CF)
    | (go_at_call 39; refine (CN.out w2 P2.out (by omega)).mono ?_; rintro e w3 ⟨rfl, b3⟩
       have P3 := Lib.hid (P2.out.below b3 (by omega))
       have B3 := Lib.hid (below_on B2.out b3 (by omega))
       have s3 := b3.size
       have P4 := Lib.hid (P3.out.below ((Below.refl w3.heap.size w3).alloc (Nat.le_refl _) (.cells #[.int .i64 a, .int .i64 b, .int .i64 c] 2)) (by omega))
       have B4 := Lib.hid (B3.out.alloc (by omega) (.cells #[.int .i64 a, .int .i64 b, .int .i64 c] 2))
       have R4 := Lib.hid (cmpOr_any _ [a, b, c] 3 _ _ (Rd.lit w3 #[.int .i64 a, .int .i64 b, .int .i64 c] 2) (by simp))
       have f03 := P3.out.blk.cell 0 (u := .slice A0 p.T.length c0) rfl
       have f13 := P3.out.blk.cell 1 (u := .slice A1 p.F.length c1) rfl
       have f23 := P3.out.blk.cell 2 (u := .slice A2 p.N.length c2) rfl
       have f43 := P3.out.blk.cell 4 (u := .int .i64 p.S) rfl
       have f53 := P3.out.blk.cell 5 (u := .int .i64 p.E) rfl
       have f04 := P4.out.blk.cell 0 (u := .slice A0 p.T.length c0) rfl
       have f14 := P4.out.blk.cell 1 (u := .slice A1 p.F.length c1) rfl
       have f24 := P4.out.blk.cell 2 (u := .slice A2 p.N.length c2) rfl
       have f44 := P4.out.blk.cell 4 (u := .int .i64 p.S) rfl
       have f54 := P4.out.blk.cell 5 (u := .int .i64 p.E) rfl
       clear b3 P2 B2 f02 f12 f22 f42 f52 CN)
    | (go_at_call 37; refine R4.out.mono ?_; rintro e w4 ⟨rfl, rfl⟩))
  have f34 := P4.out.blk.cell 3 (u := .int .i64 p.L) rfl
  obtain ⟨o, ho⟩ : ∃ o, Hid (o = orL [a, b, c]) := ⟨_, Lib.hid rfl⟩
  rw [← ho.out] at E ⊢
  have s4 : w.heap.size + 1 ≤ (w3.alloc (.cells #[.int .i64 a, .int .i64 b, .int .i64 c] 2)).heap.size := by simp; omega
  generalize w3.alloc (.cells #[.int .i64 a, .int .i64 b, .int .i64 c] 2) = w4 at *
  clear f03 f13 f23 f43 f53 P3 B3 R4 f44 f54 TF RD0 RD1 RD2 ho
  have B5 := Lib.hid (B4.out.alloc (by omega) (.cells #[.int .i64 0, .int .i64 126] 2))
  by_cases ho0 : o = 0
  · rw [if_pos ho0] at E
    have n1 : (o != 0) = false := by simp [ho0]
    clear ho0
    by_cases hl1 : p.F.length = p.T.length
    · by_cases hl2 : p.N.length = p.T.length
      · rw [if_pos ⟨hl1, hl2⟩] at E
        have m1 : ((p.T.length : Int) != (p.F.length : Int)) = false := by simp [hl1]
        have m2 : ((p.T.length : Int) != (p.N.length : Int)) = false := by simp [hl2]
        have m3 : (p.T.length != p.F.length) = false := by simp [hl1]
        have m4 : (p.T.length != p.N.length) = false := by simp [hl2]
        by_cases hlv : 0 ≤ p.L ∧ p.L ≤ 126
        · rw [if_pos hlv] at E
          have hsp := Lib.hid (show spans p.L [0, 126] = true by simp [spans, hlv])
          clear hlv hl1 hl2
          go_wp2_with (go_at_call 40; (with_reducible refine (within_lit2 _ _ _ _ _ _ (by simp)).mono ?_); rintro e w' ⟨rfl, rfl⟩; rw [hsp.out])
          go_ret
          exact ⟨rint E.out.symm, B5.out⟩
        · rw [if_neg hlv] at E
          have hsp := Lib.hid (show spans p.L [0, 126] = false by simp [spans]; omega)
          clear hlv hl1 hl2
          go_wp2_with (go_at_call 40; (with_reducible refine (within_lit2 _ _ _ _ _ _ (by simp)).mono ?_); rintro e w' ⟨rfl, rfl⟩; rw [hsp.out])
          go_ret
          exact ⟨rint E.out.symm, B5.out⟩
      · rw [if_neg (fun h => hl2 h.2)] at E
        have m1 : ((p.T.length : Int) != (p.F.length : Int)) = false := by simp [hl1]
        have m2 : ((p.T.length : Int) != (p.N.length : Int)) = true := by simp; omega
        have m3 : (p.T.length != p.F.length) = false := by simp [hl1]
        have m4 : (p.T.length != p.N.length) = true := by simp; omega
        clear hl1 hl2
        go_wp2
        go_ret
        exact ⟨rint E.out.symm, B4.out⟩
    · rw [if_neg (fun h => hl1 h.1)] at E
      have m1 : ((p.T.length : Int) != (p.F.length : Int)) = true := by simp; omega
      have m3 : (p.T.length != p.F.length) = true := by simp; omega
      clear hl1
      go_wp2
      go_ret
      exact ⟨rint E.out.symm, B4.out⟩
  · rw [if_neg ho0] at E
    have n1 : (o != 0) = true := by simpa using ho0
    clear ho0
    go_wp2
    go_ret
    exact ⟨rint E.out.symm, B4.out⟩
end Go.Proofs.YtkkojemnbcddfaaDoor
