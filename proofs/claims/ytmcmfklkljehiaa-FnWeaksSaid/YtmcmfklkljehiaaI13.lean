/- Chapter 6's draws. -/
import Derived.Test.YtmcmfklkljehiaaI4
namespace Go.Proofs.Ytmcmfklkljehiaa
open Go.RowKit

set_option maxRecDepth 100000 in
set_option maxHeartbeats 4000000 in
theorem l6Draw_any (g : Nat) (zs : List Int) (w : World) (hs : Src w g zs 0) (hb : ∀ b ∈ zs, isByte b) (hl : zs.length < 2000000) :
    Calls Try.prog 28 #[.pointer (some ⟨g, 0, none⟩)] w fun e w' => (∃ v s, e = .returned (.tuple #[v, .int .i64 s]) ∧ ∃ ts, Own w' w.heap.size w'.heap.size 2 .i64 v ts ∧ ts.length ≤ 700 ∧ Drawn ts ∧ -1 ≤ s ∧ s ≤ 2) ∧ Out g (g + 1) w w' := by
  obtain ⟨i0, hi, hz0, hz1, hz2⟩ := info_parts info_int64
  have HB := Lib.hid hb
  have gl := hs.lt
  have O0 := Lib.hid (show Hid ((w.alloc (.cells #[] 2)).ownsRow w.heap.size 2 1 (.slice (some ⟨w.heap.size, 0, none⟩) 0 0) 0 (nums .i64 [])) from Lib.hid (by simpa [nums] using own_new w 2 #[] 0 rfl (by omega))).out
  have HS := Lib.hid (hs.alloc (.cells #[] 2))
  have a0 : Out g (g + 1) w (w.alloc (.cells #[] 2)) := (Out.refl _ _ w).alloc _
  clear hs hb
  have n14 := nxt_range zs 0 14 (by omega)
  obtain ⟨N, hN⟩ : ∃ N : Nat, Hid (nxt zs 0 14 = (N : Int)) := ⟨(nxt zs 0 14).toNat, Lib.hid (by omega)⟩
  rw [hN.out] at n14
  go_enter Try.func28, Try.ntmps28
  go_wp2_with fail
  refine (next_src g zs 0 14 _ HS.out HB.out hl (by omega) (by omega)).mono ?_
  rintro e w1 ⟨rfl, hs1, o1⟩
  rw [hN.out]
  have S1 := Lib.hid hs1
  have sz0 := o1.size
  rw [World.size_alloc] at sz0
  have R1 := Lib.hid (((Own.mk_ (kd := .i64) (zs := []) O0.out rfl).out o1 (.inr (by omega))).1)
  have a1 := Lib.hid (a0.trans o1)
  clear hs1 o1 a0 O0 HS
  have n13 : N ≤ 13 := by omega
  go_wp2
  go_loopw [4, 5] (fun v nv wr => ∃ (k : Nat) (ts : List Int), k ≤ N ∧ ts.length = k ∧ nv = .int .i64 ((N : Int) - k) ∧ Hid (Drawn ts) ∧ Hid (wr.ownsRow w.heap.size 2 1 v ts.length (nums .i64 ts)) ∧ Hid (Src wr g zs (1 + (k : Int))) ∧ Hid (Out g (g + 1) w wr)) (fun _ nv _ => (intOf nv).toNat)
  case atStart => exact ⟨0, [], by omega, rfl, by simp, Lib.hid (fun _ h => by cases h), R1, Lib.hid (by simpa using S1.out), a1⟩
  case round =>
    clear R1 S1 a1
    obtain ⟨k, ts, hk, htk, rfl, ht, ho, hsr, hou⟩ := hrel
    have sz := hou.out.size
    by_cases hlt : k < N
    · have c0 : (0 : Int) < (N : Int) - k := by omega
      obtain ⟨A1, c1, rfl⟩ := own_form ho.out
      have HTK := Lib.hid htk
      have tl : ts.length ≤ 13 := by omega
      have pr := Lib.hid ((by decide : ∀ y ∈ ([0, 1, 2, 3, 3, 3, 4, 5, 5, 6, 6, 7, 7, 8, 8, 11, 12, 13, 19, 20, 21, 22] : List Int), -1 ≤ y ∧ y ≤ 1114112) _ (pick_in [0, 1, 2, 3, 3, 3, 4, 5, 5, 6, 6, 7, 7, 8, 8, 11, 12, 13, 19, 20, 21, 22] zs (1 + (k : Int)) 22 rfl (by omega)))
      obtain ⟨L, hL⟩ : ∃ L : List Int, Hid (L = [0, 1, 2, 3, 3, 3, 4, 5, 5, 6, 6, 7, 7, 8, 8, 11, 12, 13, 19, 20, 21, 22]) := ⟨_, Lib.hid rfl⟩
      clear htk
      go_wp2_with fail
      refine (l1Pick_any g wr.heap.size 22 2 [0, 1, 2, 3, 3, 3, 4, 5, 5, 6, 6, 7, 7, 8, 8, 11, 12, 13, 19, 20, 21, 22] zs (1 + (k : Int)) _ (Blk.new wr _ _) (by omega) rfl (by omega) (by omega) (hsr.out.alloc _) HB.out hl (by omega)).mono ?_
      rintro e w2 ⟨rfl, hs2, o2⟩
      obtain ⟨D, hD⟩ : ∃ D : Int, Hid (nth [0, 1, 2, 3, 3, 3, 4, 5, 5, 6, 6, 7, 7, 8, 8, 11, 12, 13, 19, 20, 21, 22] (nxt zs (1 + (k : Int)) ((22 : Nat) : Int)).toNat = D) := ⟨_, Lib.hid rfl⟩
      rw [hD.out] at pr ⊢
      have S2 := Lib.hid hs2
      have a2 := (hou.out.alloc (.cells (nums .i64 [0, 1, 2, 3, 3, 3, 4, 5, 5, 6, 6, 7, 7, 8, 8, 11, 12, 13, 19, 20, 21, 22]).toArray 2)).trans o2
      have z2 := o2.size
      rw [World.size_alloc] at z2
      have r2 := Lib.hid (((Own.mk_ (kd := .i64) (zs := ts) (ho.out.alloc (.cells (nums .i64 [0, 1, 2, 3, 3, 3, 4, 5, 5, 6, 6, 7, 7, 8, 8, 11, 12, 13, 19, 20, 21, 22]).toArray 2)) rfl).out o2 (.inr (by omega))).1)
      clear o2 hs2 ho hsr hou
      go_wp2_with (at_builtin; refine wpList_app rfl _ _ _ rfl w.heap.size Try.underlying24 hi hz0 hz1 hz2 rfl (by omega) rfl (r2.out.alloc _) rfl (Rd.lit _ #[.int .i64 D] _) (m := 1) rfl (nums_one .i64 [D]) (by omega) (by omega) (by simp; omega) ?_; intro v' w5 o5 g5 a5; obtain ⟨A5, c5, rfl⟩ := own_form o5)
      have cl := grown_close (news := [D]) gl (r2.out.alloc (.cells #[.int .i64 D] 2)) (S2.out.alloc _) (a2.alloc _) (by simpa [nums] using o5) rfl g5
      have C1 := Lib.hid cl.1
      have C2 := Lib.hid (show Src w5 g zs (1 + ((k + 1 : Nat) : Int)) by have := cl.2.1; simpa [Int.add_assoc] using this)
      have C3 := Lib.hid cl.2.2
      have ln : (ts ++ [D]).length = ts.length + 1 := by simp
      have C1 : Hid (w5.ownsRow w.heap.size 2 1 (.slice A5 (ts.length + 1) c5) (ts ++ [D]).length (nums .i64 (ts ++ [D]))) := C1
      clear o5 g5 a5 cl
      go_roundw
      case rel => exact ⟨k + 1, ts ++ [D], by omega, by rw [ln, HTK.out], by simp; omega, Lib.hid (ht.out.app (Drawn.one pr.out)), C1, C2, C3⟩
      case measure => first | omega | (simp [intOf]; omega)
    · obtain rfl : k = N := by omega
      have c0 : ¬ (0 : Int) < (k : Int) - k := by omega
      obtain ⟨A1, c1, rfl⟩ := own_form ho.out
      have OT := Lib.hid (Own.mk_ (kd := .i64) (zs := ts) ho.out rfl)
      have tl : ts.length ≤ 13 := by omega
      have S0 := hsr
      have a0 := hou.out
      clear htk ho hsr hou hlt
      go_wp2_with fail
      refine (next_src g zs (1 + (k : Int)) 2 wr S0.out HB.out hl (by omega) (by omega)).mono ?_
      rintro e w2 ⟨rfl, hs2, o2⟩
      have n2 := nxt_range zs (1 + (k : Int)) 2 (by omega)
      obtain ⟨s, hs'⟩ : ∃ s : Int, Hid (nxt zs (1 + (k : Int)) 2 = s) := ⟨_, Lib.hid rfl⟩
      rw [hs'.out] at n2 ⊢
      have S2 := Lib.hid hs2
      have OT2 := Lib.hid (OT.out.out o2 (.inr (by omega)))
      have a2 := a0.trans o2
      have z2 := o2.size
      clear hs2 o2 OT S0 a0
      go_wp2_with fail
      refine (next_src g zs (1 + (k : Int) + 1) 20 w2 S2.out HB.out hl (by omega) (by omega)).mono ?_
      rintro e w3 ⟨rfl, hs3, o3⟩
      have n20 := nxt_range zs (1 + (k : Int) + 1) 20 (by omega)
      obtain ⟨M, hM⟩ : ∃ M : Int, Hid (nxt zs (1 + (k : Int) + 1) 20 = M) := ⟨_, Lib.hid rfl⟩
      rw [hM.out] at n20 ⊢
      have S3 := Lib.hid hs3
      have OT3 := Lib.hid (OT2.out.out o3 (.inr (by omega)))
      have a3 := a2.trans o3
      have z3 := o3.size
      clear hs3 o3 OT2 a2
      by_cases h0 : M = 0
      · subst h0
        have pr := Lib.hid ((by decide : ∀ y ∈ ([-1, 23, 22] : List Int), -1 ≤ y ∧ y ≤ 1114112) _ (pick_in [-1, 23, 22] zs (1 + (k : Int) + 1 + 1) 3 rfl (by omega)))
        go_wp2_with fail
        refine (l1Pick_any g w3.heap.size 3 2 [-1, 23, 22] zs _ _ (Blk.new w3 _ _) (by omega) rfl (by omega) (by omega) (S3.out.alloc _) HB.out hl (by omega)).mono ?_
        rintro e w4 ⟨rfl, hs4, o4⟩
        obtain ⟨D, hD⟩ : ∃ D : Int, Hid (nth [-1, 23, 22] (nxt zs (1 + (k : Int) + 1 + 1) ((3 : Nat) : Int)).toNat = D) := ⟨_, Lib.hid rfl⟩
        rw [hD.out] at pr ⊢
        have S4 := Lib.hid hs4
        have a4 := (a3.alloc (.cells #[.int .i64 (-1), .int .i64 23, .int .i64 22] 2)).trans o4
        have z4 := o4.size
        rw [World.size_alloc] at z4
        have OT4 := Lib.hid ((OT3.out.alloc (.cells #[.int .i64 (-1), .int .i64 23, .int .i64 22] 2)).out o4 (.inr (by omega)))
        clear hs4 o4 OT3 a3
        go_wp2_with (at_builtin; refine wpList_app rfl _ _ _ rfl w.heap.size Try.underlying24 hi hz0 hz1 hz2 rfl (by omega) rfl (OT4.out.1.alloc _) rfl (Rd.lit w4 #[.int .i64 D] _) (m := 1) rfl (nums_one .i64 [D]) (by omega) (by omega) (by simp; omega) ?_; intro v' w5 o5 g5 a5; obtain ⟨A5, c5, rfl⟩ := own_form o5)
        have cl := grown_close (news := [D]) gl (OT4.out.1.alloc (.cells #[.int .i64 D] 2)) (S4.out.alloc _) (a4.alloc _) (by simpa [nums] using o5) rfl g5
        have CL := Lib.hid cl
        clear o5 g5 a5 cl
        go_ret2
        have ln : ts.length + 1 = (ts ++ [D]).length := by simp
        exact ⟨⟨_, _, rfl, ts ++ [D], Own.mk_ (n := ts.length + 1) (by have := CL.out.1; rwa [← ln] at this) ln, by simp; omega, ht.out.app (Drawn.one pr.out), by omega, by omega⟩, CL.out.2.2⟩
      · have f0 : (M == 0) = false := by simpa using h0
        by_cases h1 : M = 1
        · subst h1
          have pr := Lib.hid ((by decide : ∀ y ∈ ([2, -1] : List Int), -1 ≤ y ∧ y ≤ 2) _ (pick_in [2, -1] zs (1 + (k : Int) + 1 + 1) 2 rfl (by omega)))
          clear h0 f0
          go_wp2_with fail
          refine (l1Pick_any g w3.heap.size 2 2 [2, -1] zs _ _ (Blk.new w3 _ _) (by omega) rfl (by omega) (by omega) (S3.out.alloc _) HB.out hl (by omega)).mono ?_
          rintro e w4 ⟨rfl, hs4, o4⟩
          obtain ⟨D, hD⟩ : ∃ D : Int, Hid (nth [2, -1] (nxt zs (1 + (k : Int) + 1 + 1) ((2 : Nat) : Int)).toNat = D) := ⟨_, Lib.hid rfl⟩
          rw [hD.out] at pr ⊢
          have a4 := (a3.alloc (.cells #[.int .i64 2, .int .i64 (-1)] 2)).trans o4
          have z4 := o4.size
          rw [World.size_alloc] at z4
          have OT4 := Lib.hid ((OT3.out.alloc (.cells #[.int .i64 2, .int .i64 (-1)] 2)).out o4 (.inr (by omega)))
          clear hs4 o4 OT3 a3
          go_wp2
          go_ret2
          exact ⟨⟨_, _, rfl, ts, OT4.out.more (Nat.le_refl _) (by omega), by omega, ht.out, pr.out.1, pr.out.2⟩, a4⟩
        · have f1 : (M == 1) = false := by simpa using h1
          by_cases h2 : M = 2
          · subst h2
            clear h0 f0 h1 f1
            go_wp2_with fail
            refine (l1Chance_any g zs _ 3 w3 S3.out HB.out hl (by omega) (by omega)).mono ?_
            rintro e w4 ⟨rfl, hs4, o4⟩
            have S4 := Lib.hid hs4
            have a4 := a3.trans o4
            have z4 := o4.size
            have OT4 := Lib.hid (OT3.out.out o4 (.inr (by omega)))
            clear hs4 o4 OT3 a3
            cases hC : (nxt zs (1 + (k : Int) + 1 + 1) 3 == 0)
            · go_wp2
              go_ret2
              exact ⟨⟨_, _, rfl, ts, OT4.out.more (Nat.le_refl _) (by omega), by omega, ht.out, by omega, by omega⟩, a4⟩
            · have pr := Lib.hid ((by decide : ∀ y ∈ ([600, 601] : List Int), 0 ≤ y ∧ y ≤ 601) _ (pick_in [600, 601] zs (1 + (k : Int) + 1 + 1 + 1) 2 rfl (by omega)))
              go_wp2_with fail
              refine (l1Pick_any g w4.heap.size 2 2 [600, 601] zs _ _ (Blk.new w4 _ _) (by omega) rfl (by omega) (by omega) (S4.out.alloc _) HB.out hl (by omega)).mono ?_
              rintro e w5 ⟨rfl, hs5, o5⟩
              obtain ⟨D, hD⟩ : ∃ D : Nat, Hid (nth [600, 601] (nxt zs (1 + (k : Int) + 1 + 1 + 1) ((2 : Nat) : Int)).toNat = (D : Int)) := ⟨(nth [600, 601] (nxt zs (1 + (k : Int) + 1 + 1 + 1) ((2 : Nat) : Int)).toNat).toNat, Lib.hid (by have := pr.out; show _ = _; omega)⟩
              have dr : D ≤ 601 := by have := pr.out; rw [hD.out] at this; omega
              rw [hD.out]
              have a5 := (a4.alloc (.cells #[.int .i64 600, .int .i64 601] 2)).trans o5
              have z5 := o5.size
              rw [World.size_alloc] at z5
              clear hs5 o5 pr a4
              go_wp2_with (at_make; refine wpList_make_full _ rfl _ _ _ rfl w.heap.size 2 i0 (.int .i64 0) 1 Try.underlying24 hi hz0 hz1 _ _ _ _ D rfl rfl rfl rfl (by rw [hz2]; omega) (by unfold maxLen; omega) (by omega) ?_; intro w6 o6 g6)
              have b6 : Below w5.heap.size w5 w6 := ⟨g6.os, g6.tape, g6.output, g6.size, fun i hi => g6.block i hi (by simp)⟩
              have OR := Lib.hid (show Own w6 w.heap.size w6.heap.size 2 .i64 (.slice (some ⟨w5.heap.size, 0, none⟩) D D) (List.replicate D 0) from Own.mk_ (by
                rw [show D * 1 = D by omega, show (Value.int .i64 0).cells = #[.int .i64 0] from rfl, toList_madeCells_one] at o6
                simpa [nums] using o6) (by simp))
              have a6 := a5.trans (Out.of_below (lo := g) (hi := g + 1) b6)
              clear o6 g6 b6
              go_ret2
              exact ⟨⟨_, _, rfl, List.replicate D 0, OR.out, by simp; omega, fun t ht => by have := (List.mem_replicate.1 ht).2; omega, by omega, by omega⟩, a6⟩
          · have f2 : (M == 2) = false := by simpa using h2
            clear h0 h1 h2
            go_wp2
            go_ret2
            exact ⟨⟨_, _, rfl, ts, OT3.out.more (Nat.le_refl _) (by omega), by omega, ht.out, by omega, by omega⟩, a3⟩
set_option maxRecDepth 100000 in
set_option maxHeartbeats 1000000 in
theorem drawWeakOf_any (A : Option Addr) (c : Nat) (zs : List Int) (w : World) (hr : Rd w w.heap.size A (nums .u8 zs)) (hb : ∀ b ∈ zs, isByte b) (hl : zs.length < 2000000) :
    Calls Try.prog 10 #[.slice A zs.length c] w fun e w' => (∃ v s, e = .returned (.tuple #[v, .int .i64 s]) ∧ ∃ ts, Own w' w.heap.size w'.heap.size 2 .i64 v ts ∧ ts.length ≤ 700 ∧ Drawn ts ∧ -1 ≤ s ∧ s ≤ 2) ∧ Below w.heap.size w w' := by
  go_enter Try.func10, Try.ntmps10
  go_wp2_with fail
  refine (l1Source_any A c zs w hr).mono ?_
  rintro e w1 ⟨rfl, hs1, b1⟩
  have z1 := b1.size
  go_wp2_with fail
  refine (l6Draw_any w.heap.size zs w1 hs1 hb hl).mono ?_
  rintro e w2 ⟨⟨v, s, rfl, ts, ot, lt, dt, s0, s1⟩, o2⟩
  have bo := out_new b1 o2
  have OT := Lib.hid ot
  have DT := Lib.hid dt
  obtain ⟨A2, c2, rfl⟩ := ot.form
  clear o2 hs1 b1 ot dt
  go_wp2
  go_ret2
  exact ⟨⟨_, _, rfl, ts, OT.out.more (by omega) (Nat.le_refl _), lt, DT.out, s0, s1⟩, bo⟩
end Go.Proofs.Ytmcmfklkljehiaa
