/- The draws of chapter 4. -/
import Derived.Test.YtmkpbfghnkmcgaaI4
import Derived.Test.YtmkpbfghnkmcgaaG2
namespace Go.Proofs.Ytmkpbfghnkmcgaa
open Go.RowKit

set_option maxRecDepth 100000 in
set_option maxHeartbeats 400000 in
theorem lwAt_two (A : Option Addr) (c : Nat) (zs : List Int) (n : Int) (w : World) (hr : Rd w w.heap.size A (nums .u8 zs)) (hb : ∀ b ∈ zs, isByte b) (hl : zs.length < 2000000) (hn : 1 ≤ n ∧ n ≤ 100000) :
    Calls Try.prog 36 #[.slice A zs.length c, .int .i64 2, .int .i64 n] w fun e w' => (∃ x, e = .returned (.int .i64 x) ∧ 0 ≤ x ∧ x < n) ∧ Below w.heap.size w w' := by
  have HR := Lib.hid hr
  have HB := Lib.hid hb
  clear hr hb
  by_cases n1 : n ≤ 1
  · go_enter Try.func36, Try.ntmps36
    go_wp2
    go_ret
    exact ⟨⟨0, rfl, by omega, by omega⟩, Below.refl _ _⟩
  · by_cases hz : zs.length = 0
    · have e0 : ((zs.length : Int) == 0) = true := by simp [hz]
      clear hz
      have z := Int.emod_nonneg 14 (show n ≠ 0 by omega)
      have z' := Int.emod_lt_of_pos 14 (show 0 < n by omega)
      go_enter Try.func36, Try.ntmps36
      go_wp2
      go_ret
      exact ⟨⟨_, rfl, z, z'⟩, Below.refl _ _⟩
    · have e0 : ((zs.length : Int) == 0) = false := beq_eq_false_iff_ne.2 (by omega)
      obtain ⟨b, off, rfl, hbg, hcell⟩ := HR.out.int (by omega)
      have m0 := Int.emod_nonneg 2 (show (zs.length : Int) ≠ 0 by omega)
      have m1 := Int.emod_lt_of_pos 2 (show 0 < (zs.length : Int) by omega)
      obtain ⟨r, hr⟩ : ∃ r : Nat, Hid ((2 : Int) % (zs.length : Int) = r) := ⟨((2 : Int) % (zs.length : Int)).toNat, Lib.hid (by omega)⟩
      rw [hr.out] at m0 m1
      have m2 := Int.emod_nonneg 3 (show (zs.length : Int) ≠ 0 by omega)
      have m3 := Int.emod_lt_of_pos 3 (show 0 < (zs.length : Int) by omega)
      obtain ⟨r2, hr2⟩ : ∃ r : Nat, Hid ((3 : Int) % (zs.length : Int) = r) := ⟨((3 : Int) % (zs.length : Int)).toNat, Lib.hid (by omega)⟩
      rw [hr2.out] at m2 m3
      have d0 := Int.ediv_nonneg (show (0 : Int) ≤ 2 by omega) (show 0 ≤ (zs.length : Int) by omega)
      have d1 : (2 : Int) / (zs.length : Int) ≤ 2 := Int.ediv_le_self _ (by omega)
      obtain ⟨d, hd⟩ : ∃ d : Int, Hid ((2 : Int) / (zs.length : Int) = d) := ⟨_, Lib.hid rfl⟩
      rw [hd.out] at d0 d1
      have rl : r < zs.length := by omega
      have rl2 : r2 < zs.length := by omega
      have rb := HB.out _ (nth_in zs r rl)
      have rb2 := HB.out _ (nth_in zs r2 rl2)
      unfold isByte at rb rb2
      have q1 : (2 : Int).tmod (zs.length : Int) = (r : Int) := by rw [Int.tmod_eq_emod_of_nonneg (by omega)]; exact hr.out
      have q2 : (2 : Int).tdiv (zs.length : Int) = d := by rw [Int.tdiv_eq_ediv_of_nonneg (by omega)]; exact hd.out
      have q3 : (3 : Int).tmod (zs.length : Int) = (r2 : Int) := by rw [Int.tmod_eq_emod_of_nonneg (by omega)]; exact hr2.out
      have w1 : IntKind.i64.wrap (r : Int) = (r : Int) := IntWalk.i64_in _ (by omega)
      have w2 : IntKind.i64.wrap d = d := IntWalk.i64_in _ (by omega)
      have w3 : IntKind.i64.wrap (d * 3) = d * 3 := IntWalk.i64_in _ (by omega)
      have w4 : IntKind.i64.wrap (nth zs r) = nth zs r := IntWalk.i64_in _ (by omega)
      have w5 : IntKind.i64.wrap (nth zs r + d * 3) = nth zs r + d * 3 := IntWalk.i64_in _ (by omega)
      have w6 : IntKind.i64.wrap (r2 : Int) = (r2 : Int) := IntWalk.i64_in _ (by omega)
      have w7 : IntKind.i64.wrap (nth zs r2) = nth zs r2 := IntWalk.i64_in _ (by omega)
      have w8 : IntKind.i64.wrap ((nth zs r + d * 3) * 251) = (nth zs r + d * 3) * 251 := IntWalk.i64_in _ (by omega)
      have w9 : IntKind.i64.wrap ((nth zs r + d * 3) * 251 + nth zs r2) = (nth zs r + d * 3) * 251 + nth zs r2 := IntWalk.i64_in _ (by omega)
      have hx := hcell r rl
      have hx2 := hcell r2 rl2
      have E1 := Lib.hid (Int.emod_nonneg (nth zs r + d * 3) (show n ≠ 0 by omega))
      have E2 := Lib.hid (Int.emod_lt_of_pos (nth zs r + d * 3) (show 0 < n by omega))
      have E3 := Lib.hid (Int.emod_nonneg ((nth zs r + d * 3) * 251 + nth zs r2) (show n ≠ 0 by omega))
      have E4 := Lib.hid (Int.emod_lt_of_pos ((nth zs r + d * 3) * 251 + nth zs r2) (show 0 < n by omega))
      clear hcell m0 m1 m2 m3 hz
      by_cases n2 : 200 < n
      · go_enter Try.func36, Try.ntmps36
        go_wp2
        go_quiet (fail)
        go_wp2
        go_ret
        exact ⟨⟨_, rfl, E3.out, E4.out⟩, below_drewN (Below.refl _ _) _⟩
      · go_enter Try.func36, Try.ntmps36
        go_wp2
        go_quiet (fail)
        go_wp2
        go_ret
        exact ⟨⟨_, rfl, E1.out, E2.out⟩, below_drewN (Below.refl _ _) _⟩
theorem Drawn.two {a : Int} {l : List Int} (h : -1 ≤ a ∧ a ≤ 1114112) (k : Drawn l) : Drawn (a :: l) := fun t ht => by
  rcases List.mem_cons.1 ht with h1 | h1
  · rw [h1]; exact h
  · exact k t h1

set_option maxRecDepth 100000 in
set_option maxHeartbeats 4000000 in
theorem l4Para_any (g : Nat) (zs : List Int) (w : World) (hs : Src w g zs 0) (hb : ∀ b ∈ zs, isByte b) (hl : zs.length < 2000000) :
    Calls Try.prog 65 #[.pointer (some ⟨g, 0, none⟩)] w fun e w' => (∃ v b, e = .returned (.tuple #[v, .int .i64 b]) ∧ ∃ ts, Own w' w.heap.size w'.heap.size 2 .i64 v ts ∧ ts.length ≤ 700 ∧ Drawn ts ∧ -1 ≤ b ∧ b ≤ 2) ∧ Out g (g + 1) w w' := by
  obtain ⟨i0, hi, hz0, hz1, hz2⟩ := info_parts info_int64
  have HB := Lib.hid hb
  have HS := Lib.hid hs
  have gl := hs.lt
  have pr := Lib.hid ((by decide : ∀ y ∈ ([0, 1, 4, 9, 20, 30] : List Int), 0 ≤ y ∧ y ≤ 30) _ (pick_in [0, 1, 4, 9, 20, 30] zs 0 6 rfl (by omega)))
  clear hs hb
  go_enter Try.func65, Try.ntmps65
  go_wp2_with fail
  refine (l1Pick_any g w.heap.size 6 2 [0, 1, 4, 9, 20, 30] zs 0 _ (Blk.new w _ _) (by omega) rfl (by omega) (by omega) (HS.out.alloc _) HB.out hl (by omega)).mono ?_
  rintro e w1 ⟨rfl, hs1, o1⟩
  obtain ⟨E, hE⟩ : ∃ E : Nat, Hid (nth [0, 1, 4, 9, 20, 30] (nxt zs 0 ((6 : Nat) : Int)).toNat = (E : Int)) := ⟨(nth [0, 1, 4, 9, 20, 30] (nxt zs 0 ((6 : Nat) : Int)).toNat).toNat, Lib.hid (by have := pr.out; show _ = _; omega)⟩
  have er : E ≤ 30 := by have := pr.out; rw [hE.out] at this; omega
  rw [hE.out]
  have S1 := Lib.hid hs1
  have a1 : Out g (g + 1) w w1 := ((Out.refl _ _ w).alloc _).trans o1
  have z1 := o1.size
  rw [World.size_alloc] at z1
  clear hs1 o1 pr
  go_wp2_with fail
  refine (l1DrawText_any g zs _ E w1 S1.out HB.out hl (by omega)).mono ?_
  rintro e w2 ⟨⟨v2, rfl, ts, ot, lt, ht⟩, hs2, o2⟩
  obtain ⟨A2, c2, rfl⟩ := ot.form
  have S2 := Lib.hid hs2
  have OT := Lib.hid (ot.more (lo' := w.heap.size) (by omega) (Nat.le_refl _))
  have HT := Lib.hid (Drawn.chr ht)
  have a2 := a1.trans o2
  have z2 := o2.size
  have lt2 : ts.length ≤ 30 := by omega
  clear hs2 o2 ot a1 lt ht
  have n2 := nxt_range zs (0 + 1 + (E : Int)) 2 (by omega)
  obtain ⟨b, hbb⟩ : ∃ b : Int, Hid (nxt zs (0 + 1 + (E : Int)) 2 = b) := ⟨_, Lib.hid rfl⟩
  rw [hbb.out] at n2
  go_wp2_with fail
  refine (next_src g zs _ 2 w2 S2.out HB.out hl (by omega) (by omega)).mono ?_
  rintro e w3 ⟨rfl, hs3, o3⟩
  rw [hbb.out]
  have S3 := Lib.hid hs3
  have OT3 := Lib.hid (OT.out.out o3 (.inr (by omega)))
  have a3 := a2.trans o3
  have z3 := o3.size
  clear hs3 o3 OT a2
  have n24 := nxt_range zs (0 + 1 + (E : Int) + 1) 24 (by omega)
  obtain ⟨N, hN⟩ : ∃ N : Int, Hid (nxt zs (0 + 1 + (E : Int) + 1) 24 = N) := ⟨_, Lib.hid rfl⟩
  rw [hN.out] at n24
  go_wp2_with fail
  refine (next_src g zs _ 24 w3 S3.out HB.out hl (by omega) (by omega)).mono ?_
  rintro e w4 ⟨rfl, hs4, o4⟩
  rw [hN.out]
  have S4 := Lib.hid hs4
  have OT4 := Lib.hid (OT3.out.out o4 (.inr (by omega)))
  have a4 := a3.trans o4
  have z4 := o4.size
  clear hs4 o4 OT3 a3
  by_cases h0 : N = 0
  · have f0 : (N == 0) = true := by simp [h0]
    have pr := Lib.hid ((by decide : ∀ y ∈ ([-1, 2] : List Int), -1 ≤ y ∧ y ≤ 2) _ (pick_in [-1, 2] zs (0 + 1 + (E : Int) + 1 + 1) 2 rfl (by omega)))
    clear h0
    go_wp2_with fail
    refine (l1Pick_any g w4.heap.size 2 2 [-1, 2] zs _ _ (Blk.new w4 _ _) (by omega) rfl (by omega) (by omega) (S4.out.alloc _) HB.out hl (by omega)).mono ?_
    rintro e w5 ⟨rfl, hs5, o5⟩
    obtain ⟨D, hD⟩ : ∃ D : Int, Hid (nth [-1, 2] (nxt zs (0 + 1 + (E : Int) + 1 + 1) ((2 : Nat) : Int)).toNat = D) := ⟨_, Lib.hid rfl⟩
    rw [hD.out] at pr ⊢
    have a5 := Lib.hid ((a4.alloc (.cells #[.int .i64 (-1), .int .i64 2] 2)).trans o5)
    have z5 := o5.size
    rw [World.size_alloc] at z5
    have OT5 := Lib.hid ((OT4.out.alloc (.cells #[.int .i64 (-1), .int .i64 2] 2)).out o5 (.inr (by omega)))
    clear hs5 o5 OT4 a4
    go_wp2
    go_ret2
    exact ⟨⟨_, D, rfl, ts, OT5.out.more (Nat.le_refl _) (by omega), by omega, HT.out, pr.out.1, pr.out.2⟩, a5.out⟩
  · have f0 : (N == 0) = false := by simpa using h0
    by_cases h1 : N = 1
    · have f1 : (N == 1) = true := by simp [h1]
      have pr := Lib.hid ((by decide : ∀ y ∈ ([10, 8233, -1] : List Int), -1 ≤ y ∧ y ≤ 1114112) _ (pick_in [10, 8233, -1] zs (0 + 1 + (E : Int) + 1 + 1) 3 rfl (by omega)))
      clear h0 h1
      go_wp2_with fail
      refine (l1Pick_any g w4.heap.size 3 2 [10, 8233, -1] zs _ _ (Blk.new w4 _ _) (by omega) rfl (by omega) (by omega) (S4.out.alloc _) HB.out hl (by omega)).mono ?_
      rintro e w5 ⟨rfl, hs5, o5⟩
      obtain ⟨D, hD⟩ : ∃ D : Int, Hid (nth [10, 8233, -1] (nxt zs (0 + 1 + (E : Int) + 1 + 1) ((3 : Nat) : Int)).toNat = D) := ⟨_, Lib.hid rfl⟩
      rw [hD.out] at pr ⊢
      have S5 := Lib.hid hs5
      have a5 := (a4.alloc (.cells #[.int .i64 10, .int .i64 8233, .int .i64 (-1)] 2)).trans o5
      have z5 := o5.size
      rw [World.size_alloc] at z5
      have OT5 := Lib.hid ((OT4.out.alloc (.cells #[.int .i64 10, .int .i64 8233, .int .i64 (-1)] 2)).out o5 (.inr (by omega)))
      clear hs5 o5 OT4 a4
      go_wp2_with (at_builtin; refine wpList_app rfl _ _ _ rfl w.heap.size Try.underlying24 hi hz0 hz1 hz2 rfl (by omega) rfl (OT5.out.1.alloc _) rfl (Rd.lit w5 #[.int .i64 D] _) (m := 1) rfl (nums_one .i64 [D]) (by omega) (by omega) (by simp; omega) ?_; intro v' w6 o6 g6 a6; obtain ⟨A6, c6, rfl⟩ := own_form o6)
      have cl := grown_close (news := [D]) gl (OT5.out.1.alloc (.cells #[.int .i64 D] 2)) (S5.out.alloc _) (a5.alloc _) (by simpa [nums] using o6) rfl g6
      have CL := Lib.hid cl
      clear o6 g6 a6 cl
      go_ret2
      have ln : ts.length + 1 = (ts ++ [D]).length := by simp
      exact ⟨⟨_, b, rfl, ts ++ [D], Own.mk_ (n := ts.length + 1) (by have := CL.out.1; rwa [← ln] at this) ln, by simp; omega, HT.out.app (Drawn.one pr.out), by omega, by omega⟩, CL.out.2.2⟩
    · have f1 : (N == 1) = false := by simpa using h1
      by_cases h2 : N = 2
      · have f2 : (N == 2) = true := by simp [h2]
        have pr := Lib.hid ((by decide : ∀ y ∈ ([60, 62, 63, 64, 126] : List Int), 0 ≤ y ∧ y ≤ 126) _ (pick_in [60, 62, 63, 64, 126] zs (0 + 1 + (E : Int) + 1 + 1) 5 rfl (by omega)))
        clear h0 h1 h2 OT4 HT
        have od := Lib.hid (own_more (own_new w4 2 #[] 0 rfl (by omega)) (base' := w.heap.size) (by omega))
        have ad := a4.alloc (.cells #[] 2)
        have sd := S4.out.alloc (.cells #[] 2)
        go_wp2_with fail
        refine (l1Pick_any g (w4.heap.size + 1) 5 2 [60, 62, 63, 64, 126] zs _ _ (by have := Blk.new (w4.alloc (.cells #[] 2)) 2 (Array.mk (nums .i64 [60, 62, 63, 64, 126])); rw [World.size_alloc] at this; exact this) (by omega) rfl (by omega) (by omega) (sd.alloc _) HB.out hl (by omega)).mono ?_
        rintro e w5 ⟨rfl, hs5, o5⟩
        obtain ⟨M, hM⟩ : ∃ M : Nat, Hid (nth [60, 62, 63, 64, 126] (nxt zs (0 + 1 + (E : Int) + 1 + 1) ((5 : Nat) : Int)).toNat = (M : Int)) := ⟨(nth [60, 62, 63, 64, 126] (nxt zs (0 + 1 + (E : Int) + 1 + 1) ((5 : Nat) : Int)).toNat).toNat, Lib.hid (by have := pr.out; show _ = _; omega)⟩
        have mr : M ≤ 126 := by have := pr.out; rw [hM.out] at this; omega
        rw [hM.out]
        have S5 := Lib.hid hs5
        have A5 := Lib.hid ((ad.alloc (.cells (Array.mk (nums .i64 [60, 62, 63, 64, 126])) 2)).trans o5)
        have z5 := o5.size
        rw [World.size_alloc, World.size_alloc] at z5
        have OD := Lib.hid (show w5.ownsRow w.heap.size 2 1 (.slice (some ⟨w4.heap.size, 0, none⟩) 0 0) ([] : List Int).length (nums .i64 []) from
          (Own.out (hi := w4.heap.size + 1) (lo := w.heap.size) (kd := .i64) (zs := []) ⟨od.out.alloc _, fun x hx => by { have e : some w4.heap.size = some x := hx; injection e with e; omega }⟩ o5 (.inr (by omega))).1)
        clear hs5 o5 pr ad sd od a4 S4
        go_wp2
        go_loopw [6, 7] (fun v i wr => ∃ (j : Nat) (ds : List Int), j ≤ M ∧ i = .int .i64 j ∧ ds.length + j = M ∧ Hid (Drawn ds) ∧ Hid (wr.ownsRow w.heap.size 2 1 v ds.length (nums .i64 ds)) ∧ Hid (Src wr g zs (0 + 1 + (E : Int) + 1 + 1 + 1 + (ds.length : Int))) ∧ Hid (Out g (g + 1) w wr) ∧ w5.heap.size ≤ wr.heap.size) (fun _ i _ => (intOf i).toNat)
        case atStart => exact ⟨M, [], by omega, rfl, by simp, Lib.hid (fun t ht => by simp at ht), OD, Lib.hid (by simpa using S5.out), A5, by omega⟩
        case round =>
          clear OD S5 A5
          obtain ⟨j, ds, hj, rfl, hdj, hdr, hro, hsr, hor, hsz⟩ := hrel
          by_cases hj0 : 0 < j
          · have pr := Lib.hid ((by decide : ∀ y ∈ ([8235, 8234, 8294, 8295] : List Int), -1 ≤ y ∧ y ≤ 1114112) _ (pick_in [8235, 8234, 8294, 8295] zs (0 + 1 + (E : Int) + 1 + 1 + 1 + (ds.length : Int)) 4 rfl (by omega)))
            obtain ⟨AD, cD, rfl⟩ := own_form hro.out
            go_wp2_with fail
            refine (l1Pick_any g wr.heap.size 4 2 [8235, 8234, 8294, 8295] zs _ _ (Blk.new wr _ _) (by omega) rfl (by omega) (by omega) (hsr.out.alloc _) HB.out hl (by omega)).mono ?_
            rintro e w6 ⟨rfl, hs6, o6⟩
            obtain ⟨D, hD⟩ : ∃ D : Int, Hid (nth [8235, 8234, 8294, 8295] (nxt zs (0 + 1 + (E : Int) + 1 + 1 + 1 + (ds.length : Int)) ((4 : Nat) : Int)).toNat = D) := ⟨_, Lib.hid rfl⟩
            rw [hD.out] at pr ⊢
            have S6 := Lib.hid hs6
            have a6 := (hor.out.alloc (.cells #[.int .i64 8235, .int .i64 8234, .int .i64 8294, .int .i64 8295] 2)).trans o6
            have z6 := o6.size
            rw [World.size_alloc] at z6
            have OD6 := Lib.hid ((Own.out (hi := wr.heap.size) (kd := .i64) (zs := ds) ⟨hro.out.alloc (.cells #[.int .i64 8235, .int .i64 8234, .int .i64 8294, .int .i64 8295] 2), fun x hx => (hro.out.lt x hx).2⟩ o6 (.inr (by omega))).1)
            have dl : ds.length ≤ 126 := by omega
            clear hs6 o6 hro hsr hor
            go_wp2_with (at_builtin; refine wpList_app rfl _ _ _ rfl w.heap.size Try.underlying24 hi hz0 hz1 hz2 rfl (by omega) rfl (OD6.out.alloc _) rfl (Rd.lit w6 #[.int .i64 D] _) (m := 1) rfl (nums_one .i64 [D]) (by omega) (by omega) (by simp; omega) ?_; intro v' w7 o7 g7 a7; obtain ⟨A7, c7, rfl⟩ := own_form o7)
            have cl := grown_close (news := [D]) gl (OD6.out.alloc (.cells #[.int .i64 D] 2)) (S6.out.alloc _) (a6.alloc _) (by simpa [nums] using o7) rfl g7
            have C1 := Lib.hid cl.1
            have C2 : Hid (Src w7 g zs (0 + 1 + (E : Int) + 1 + 1 + 1 + ((ds ++ [D]).length : Int))) := Lib.hid (by have := cl.2.1; rw [List.length_append]; simpa [Int.add_assoc] using this)
            have C3 := Lib.hid cl.2.2
            have DD := Lib.hid (hdr.out.app (Drawn.one pr.out))
            have s7 : w5.heap.size ≤ w7.heap.size := by have := g7.size; rw [World.size_alloc] at this; omega
            have dl2 : (ds ++ [D]).length = ds.length + 1 := by simp
            have DL2 := Lib.hid dl2
            have C1' : Hid (w7.ownsRow w.heap.size 2 1 (.slice A7 (ds.length + 1) c7) (ds ++ [D]).length (nums .i64 (ds ++ [D]))) := C1
            clear o7 g7 a7 cl dl2 C1 a6
            go_wp2
            go_roundw
            case rel => exact ⟨j - 1, ds ++ [D], by omega, by go_num, by rw [DL2.out]; omega, DD, C1', C2, C3, s7⟩
            case measure => first | omega | (simp [intOf]; omega)
          · have hj00 : j = 0 := by omega
            subst hj00
            obtain ⟨AD, cD, rfl⟩ := own_form hro.out
            have dl : ds.length ≤ 126 := by omega
            go_wp2_with fail
            refine (l1DrawText_any g zs _ 6 wr hsr.out HB.out hl (by omega)).mono ?_
            rintro e w6 ⟨⟨v6, rfl, t6, ot, lt6, ht⟩, hs6, o6⟩
            obtain ⟨A6, c6, rfl⟩ := ot.form
            have S6 := Lib.hid hs6
            have a6 := hor.out.trans o6
            have z6 := o6.size
            have R6 := Lib.hid (Rd.of ot.1)
            have HT6 := Lib.hid (Drawn.chr ht)
            have OD6 := Lib.hid ((Own.out (hi := wr.heap.size) (kd := .i64) (zs := ds) ⟨hro.out, fun x hx => (hro.out.lt x hx).2⟩ o6 (.inr (by omega))).1)
            have LT6 : Hid (t6.length = 6) := Lib.hid lt6
            rw [lt6]
            clear hs6 o6 ot lt6 ht hro hsr hor
            have tok1 : True := trivial
            go_wp2_with (first
              | (at_builtin; have _t := tok1; refine wpList_app rfl _ _ _ rfl w.heap.size Try.underlying24 hi hz0 hz1 hz2 rfl (by omega) rfl OD6.out rfl R6.out (m := 6) (by rw [nums_length, LT6.out]) (nums_one .i64 t6) (by omega) (by omega) (by omega) ?_; intro v' w7 o7 g7 a7; clear tok1; obtain ⟨A7, c7, rfl⟩ := own_form o7; have CL := Lib.hid (grown_close (news := t6) gl OD6.out S6.out a6 o7 LT6.out g7); have s7 := g7.size; have O7 := Lib.hid o7; have LL7 : Hid ((ds ++ t6).length = ds.length + 6) := Lib.hid (by rw [List.length_append, LT6.out]); clear o7 g7 a7)
              | (at_builtin; refine wpList_app rfl _ _ _ rfl w.heap.size Try.underlying24 hi hz0 hz1 hz2 rfl (by omega) rfl (O7.out.alloc _) rfl (Rd.lit w7 #[.int .i64 8236, .int .i64 8297, .int .i64 97, .int .i64 1488] _) (m := 4) rfl (nums_one .i64 [8236, 8297, 97, 1488]) (by omega) (by omega) (by simp; omega) ?_; intro v' w8 o8 g8 a8; obtain ⟨A8, c8, rfl⟩ := own_form o8))
            have C0 := CL.out.1
            rw [LL7.out] at C0
            have cl := grown_close (news := [8236, 8297, 97, 1488]) (ts := ds ++ t6) (m := 4) (v' := .slice A8 (ds.length + 6 + 4) c8) gl (by rw [LL7.out]; exact C0.alloc (.cells #[.int .i64 8236, .int .i64 8297, .int .i64 97, .int .i64 1488] 2)) (CL.out.2.1.alloc _) (CL.out.2.2.alloc _) (by rw [LL7.out]; simpa [nums, List.append_assoc] using o8) rfl g8
            have CL2 := Lib.hid cl
            have DD := Lib.hid ((hdr.out.app HT6.out).app (Drawn.two (a := 8236) (by omega) (Drawn.two (a := 8297) (by omega) (Drawn.two (a := 97) (by omega) (Drawn.one (x := 1488) (by omega))))))
            clear o8 g8 a8 cl C0
            go_wp2
            go_ret2
            have ln : ds.length + 6 + 4 = (ds ++ t6 ++ [8236, 8297, 97, 1488]).length := by rw [List.length_append, LL7.out]; rfl
            exact ⟨⟨_, b, rfl, ds ++ t6 ++ [8236, 8297, 97, 1488], Own.mk_ (n := ds.length + 6 + 4) (by have := CL2.out.1; rwa [← ln] at this) ln, by rw [← ln]; omega, DD.out, by omega, by omega⟩, CL2.out.2.2⟩
      · have f2 : (N == 2) = false := by simpa using h2
        have A4 := Lib.hid a4
        clear h0 h1 h2 a4
        go_wp2
        go_ret2
        exact ⟨⟨_, b, rfl, ts, OT4.out.more (Nat.le_refl _) (by omega), by omega, HT.out, by omega, by omega⟩, A4.out⟩
set_option maxRecDepth 100000 in
set_option maxHeartbeats 1000000 in
theorem drawExplicitOf_any (A : Option Addr) (c : Nat) (zs : List Int) (w : World) (hr : Rd w w.heap.size A (nums .u8 zs)) (hb : ∀ b ∈ zs, isByte b) (hl : zs.length < 2000000) :
    Calls Try.prog 25 #[.slice A zs.length c] w fun e w' => (∃ v b, e = .returned (.tuple #[v, .int .i64 b]) ∧ ∃ ts, Own w' w.heap.size w'.heap.size 2 .i64 v ts ∧ ts.length ≤ 700 ∧ Drawn ts ∧ -1 ≤ b ∧ b ≤ 2) ∧ Below w.heap.size w w' := by
  go_enter Try.func25, Try.ntmps25
  go_wp2_with fail
  refine (l1Source_any A c zs w hr).mono ?_
  rintro e w1 ⟨rfl, hs1, b1⟩
  have z1 := b1.size
  go_wp2_with fail
  refine (l4Para_any w.heap.size zs w1 hs1 hb hl).mono ?_
  rintro e w2 ⟨⟨v, b, rfl, ts, ot, lt, dt, b0, b3⟩, o2⟩
  have bo := Lib.hid (out_new b1 o2)
  have OT := Lib.hid ot
  have DT := Lib.hid dt
  obtain ⟨A2, c2, rfl⟩ := ot.form
  clear o2 hs1 b1 ot dt
  go_wp2
  go_ret2
  exact ⟨⟨_, b, rfl, ts, OT.out.more (by omega) (Nat.le_refl _), lt, DT.out, b0, b3⟩, bo.out⟩
set_option maxRecDepth 100000 in
set_option maxHeartbeats 1000000 in
theorem drawLeastOdd_any (A : Option Addr) (c : Nat) (zs : List Int) (w : World) (hr : Rd w w.heap.size A (nums .u8 zs)) (hb : ∀ b ∈ zs, isByte b) (hl : zs.length < 2000000) :
    Calls Try.prog 27 #[.slice A zs.length c] w fun e w' => (∃ n, e = .returned (.int .i64 n) ∧ -1 ≤ n ∧ n ≤ 1000) ∧ Below w.heap.size w w' := by
  have pr := Lib.hid ((by decide : ∀ y ∈ ([0, 1, 2, 7, 124, 125, 999, 1000, -1] : List Int), -1 ≤ y ∧ y ≤ 1000) _ (pick_in [0, 1, 2, 7, 124, 125, 999, 1000, -1] zs 0 9 rfl (by omega)))
  go_enter Try.func27, Try.ntmps27
  go_wp2_with fail
  refine (l1Source_any A c zs w hr).mono ?_
  rintro e w1 ⟨rfl, hs1, b1⟩
  have z1 := b1.size
  have gl := hs1.lt
  have B1 := Lib.hid b1
  clear b1
  go_wp2_with fail
  refine (l1Pick_any w.heap.size w1.heap.size 9 2 [0, 1, 2, 7, 124, 125, 999, 1000, -1] zs 0 _ (Blk.new w1 _ _) (by omega) rfl (by omega) (by omega) (hs1.alloc _) hb hl (by omega)).mono ?_
  rintro e w2 ⟨rfl, hs2, o2⟩
  obtain ⟨D, hD⟩ : ∃ D : Int, Hid (nth [0, 1, 2, 7, 124, 125, 999, 1000, -1] (nxt zs 0 ((9 : Nat) : Int)).toNat = D) := ⟨_, Lib.hid rfl⟩
  rw [hD.out] at pr ⊢
  have bo := Lib.hid (out_new B1.out (((Out.refl _ _ w1).alloc (.cells (Array.mk (nums .i64 [0, 1, 2, 7, 124, 125, 999, 1000, -1])) 2)).trans o2))
  clear o2 hs2 hs1 B1
  go_wp2
  go_ret
  exact ⟨⟨D, rfl, pr.out.1, pr.out.2⟩, bo.out⟩
end Go.Proofs.Ytmkpbfghnkmcgaa
