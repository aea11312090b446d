/- The draws of chapter 3. -/
import Derived.Test.YtmkpbfghnkmcgaaN1
import Derived.Test.YtmkpbfghnkmcgaaH3
namespace Go.Proofs.Ytmkpbfghnkmcgaa
open Go.RowKit

/-- numbers that a drawn text may hold -/
def Drawn (ts : List Int) : Prop := ∀ t ∈ ts, -1 ≤ t ∧ t ≤ 1114112
theorem Drawn.app {a b : List Int} (h : Drawn a) (k : Drawn b) : Drawn (a ++ b) := fun t ht => by
  rcases List.mem_append.1 ht with h1 | h1
  · exact h t h1
  · exact k t h1
theorem Drawn.one {x : Int} (h : -1 ≤ x ∧ x ≤ 1114112) : Drawn [x] := fun t ht => by rw [List.mem_singleton.1 ht]; exact h
theorem Drawn.chr {ts : List Int} (h : ∀ t ∈ ts, chrB t = true) : Drawn ts := fun t ht => by have := chrB_range (h t ht); omega
theorem Drawn.wf {ts : List Int} (h : Drawn ts) : ∀ n ∈ ts, (Lit.int .i64 n).wf = true := by
  intro n hn
  have := h n hn
  have h1 : IntKind.i64.min = -9223372036854775808 := rfl
  have h2 : IntKind.i64.max = 9223372036854775807 := rfl
  simp only [Lit.wf, Bool.and_eq_true, decide_eq_true_eq, h1, h2]
  omega
/-- an owned row grown by an append: what the source and the frame keep -/
theorem grown_close {w w1 w2 : World} {g : Nat} {zs ts news : List Int} {at2 : Int} {v v' : Value} {m : Nat} (gl : g < w.heap.size) (r1 : w1.ownsRow w.heap.size 2 1 v ts.length (nums .i64 ts)) (S1 : Src w1 g zs at2) (ou1 : Out g (g + 1) w w1)
    (o2 : w2.ownsRow w.heap.size 2 1 v' (ts.length + m) (nums .i64 ts ++ nums .i64 news)) (hm : news.length = m) (g2 : w1.grownBy w2 v.ownBlock) :
    w2.ownsRow w.heap.size 2 1 v' (ts ++ news).length (nums .i64 (ts ++ news)) ∧ Src w2 g zs at2 ∧ Out g (g + 1) w w2 := by
  have ro := row_out r1 g2
  refine ⟨?_, S1.out ro gl, ou1.later ro (Nat.le_refl _)⟩
  subst hm
  simpa [nums] using o2

set_option maxRecDepth 100000 in
set_option maxHeartbeats 1000000 in
theorem l3Bent_any (g : Nat) (zs : List Int) (at_ : Int) (w : World) (hs : Src w g zs at_) (hb : ∀ b ∈ zs, isByte b) (hl : zs.length < 2000000) (ha : 0 ≤ at_ ∧ at_ + 100 ≤ 1000000) :
    Calls Try.prog 48 #[.pointer (some ⟨g, 0, none⟩)] w fun e w' => (∃ v ts at', e = .returned v ∧ Own w' w.heap.size w'.heap.size 2 .i64 v ts ∧ ts.length ≤ 601 ∧ Drawn ts ∧ at_ ≤ at' ∧ at' ≤ at_ + 30 ∧ Src w' g zs at') ∧ Out g (g + 1) w w' := by
  obtain ⟨i0, hi, hz0, hz1, hz2⟩ := info_parts info_int64
  have HB := Lib.hid hb
  have HS := Lib.hid hs
  have gl := hs.lt
  have pr := Lib.hid ((by decide : ∀ y ∈ ([0, 1, 3, 8, 20] : List Int), 0 ≤ y ∧ y ≤ 20) _ (pick_in [0, 1, 3, 8, 20] zs at_ 5 rfl (by omega)))
  clear hs hb
  go_enter Try.func48, Try.ntmps48
  go_wp2_with fail
  refine (l1Pick_any g w.heap.size 5 2 [0, 1, 3, 8, 20] zs at_ _ (Blk.new w _ _) (by omega) rfl (by omega) (by omega) (HS.out.alloc _) HB.out hl (by omega)).mono ?_
  rintro e w1 ⟨rfl, hs1, o1⟩
  obtain ⟨E, hE⟩ : ∃ E : Nat, Hid (nth [0, 1, 3, 8, 20] (nxt zs at_ ((5 : Nat) : Int)).toNat = (E : Int)) := ⟨(nth [0, 1, 3, 8, 20] (nxt zs at_ ((5 : Nat) : Int)).toNat).toNat, Lib.hid (by have := pr.out; show _ = _; omega)⟩
  have er : E ≤ 20 := by have := pr.out; rw [hE.out] at this; omega
  rw [hE.out]
  have S1 := Lib.hid hs1
  have a1 : Out g (g + 1) w w1 := ((Out.refl _ _ w).alloc _).trans o1
  have z1 := o1.size
  rw [World.size_alloc] at z1
  clear hs1 o1 pr
  go_wp2_with fail
  refine (l1DrawText_any g zs _ E w1 S1.out HB.out hl (by omega)).mono ?_
  rintro e w2 ⟨⟨v2, rfl, ts, ot, lt, ht⟩, hs2, o2⟩
  obtain ⟨A2, c2, rfl⟩ := ot.form
  have S2 := Lib.hid hs2
  have OT := Lib.hid (ot.more (lo' := w.heap.size) (by omega) (Nat.le_refl _))
  have HT := Lib.hid (Drawn.chr ht)
  have a2 := a1.trans o2
  have z2 := o2.size
  have lt2 : ts.length ≤ 20 := by omega
  clear hs2 o2 ot a1 lt ht
  have n20 := nxt_range zs (at_ + 1 + (E : Int)) 20 (by omega)
  obtain ⟨N, hN⟩ : ∃ N : Int, Hid (nxt zs (at_ + 1 + (E : Int)) 20 = N) := ⟨_, Lib.hid rfl⟩
  rw [hN.out] at n20
  go_wp2_with fail
  refine (next_src g zs _ 20 w2 S2.out HB.out hl (by omega) (by omega)).mono ?_
  rintro e w3 ⟨rfl, hs3, o3⟩
  rw [hN.out]
  have S3 := Lib.hid hs3
  have OT3 := Lib.hid (OT.out.out o3 (.inr (by omega)))
  have a3 := a2.trans o3
  have z3 := o3.size
  clear hs3 o3 OT a2
  by_cases h0 : N = 0
  · have f0 : (N == 0) = true := by simp [h0]
    have pr := Lib.hid ((by decide : ∀ y ∈ ([55296, -1, 1114112] : List Int), -1 ≤ y ∧ y ≤ 1114112) _ (pick_in [55296, -1, 1114112] zs (at_ + 1 + (E : Int) + 1) 3 rfl (by omega)))
    clear h0
    go_wp2_with fail
    refine (l1Pick_any g w3.heap.size 3 2 [55296, -1, 1114112] zs _ _ (Blk.new w3 _ _) (by omega) rfl (by omega) (by omega) (S3.out.alloc _) HB.out hl (by omega)).mono ?_
    rintro e w4 ⟨rfl, hs4, o4⟩
    obtain ⟨D, hD⟩ : ∃ D : Int, Hid (nth [55296, -1, 1114112] (nxt zs (at_ + 1 + (E : Int) + 1) ((3 : Nat) : Int)).toNat = D) := ⟨_, Lib.hid rfl⟩
    rw [hD.out] at pr ⊢
    have S4 := Lib.hid hs4
    have a4 := (a3.alloc (.cells #[.int .i64 55296, .int .i64 (-1), .int .i64 1114112] 2)).trans o4
    have z4 := o4.size
    rw [World.size_alloc] at z4
    have OT4 := Lib.hid ((OT3.out.alloc (.cells #[.int .i64 55296, .int .i64 (-1), .int .i64 1114112] 2)).out o4 (.inr (by omega)))
    clear hs4 o4 OT3 a3
    go_wp2_with (at_builtin; refine wpList_app rfl _ _ _ rfl w.heap.size Try.underlying24 hi hz0 hz1 hz2 rfl (by omega) rfl (OT4.out.1.alloc _) rfl (Rd.lit w4 #[.int .i64 D] _) (m := 1) rfl (nums_one .i64 [D]) (by omega) (by omega) (by simp; omega) ?_; intro v' w5 o5 g5 a5; obtain ⟨A5, c5, rfl⟩ := own_form o5)
    have cl := grown_close (news := [D]) gl (OT4.out.1.alloc (.cells #[.int .i64 D] 2)) (S4.out.alloc _) (a4.alloc _) (by simpa [nums] using o5) rfl g5
    have CL := Lib.hid cl
    clear o5 g5 a5 cl
    go_ret
    have ln : ts.length + 1 = (ts ++ [D]).length := by simp
    exact ⟨⟨_, rfl, ts ++ [D], Own.mk_ (n := ts.length + 1) (by have := CL.out.1; rwa [← ln] at this) ln, by simp; omega, HT.out.app (Drawn.one pr.out), _, by omega, by omega, CL.out.2.1⟩, CL.out.2.2⟩
  · have f0 : (N == 0) = false := by simpa using h0
    by_cases h1 : N = 1
    · have f1 : (N == 1) = true := by simp [h1]
      clear h0 h1
      go_wp2_with fail
      refine (l1Chance_any g zs _ 3 w3 S3.out HB.out hl (by omega) (by omega)).mono ?_
      rintro e w4 ⟨rfl, hs4, o4⟩
      have S4 := Lib.hid hs4
      have a4 := a3.trans o4
      have z4 := o4.size
      have OT4 := Lib.hid (OT3.out.out o4 (.inr (by omega)))
      clear hs4 o4 OT3 a3
      cases hC : (nxt zs (at_ + 1 + (E : Int) + 1) 3 == 0)
      · go_wp2
        go_ret
        exact ⟨⟨_, ts, _, rfl, OT4.out.more (Nat.le_refl _) (by omega), by omega, HT.out, by omega, by omega, S4.out⟩, a4⟩
      · have pr := Lib.hid ((by decide : ∀ y ∈ ([600, 601] : List Int), 0 ≤ y ∧ y ≤ 601) _ (pick_in [600, 601] zs (at_ + 1 + (E : Int) + 1 + 1) 2 rfl (by omega)))
        go_wp2_with fail
        refine (l1Pick_any g w4.heap.size 2 2 [600, 601] zs _ _ (Blk.new w4 _ _) (by omega) rfl (by omega) (by omega) (S4.out.alloc _) HB.out hl (by omega)).mono ?_
        rintro e w5 ⟨rfl, hs5, o5⟩
        obtain ⟨D, hD⟩ : ∃ D : Nat, Hid (nth [600, 601] (nxt zs (at_ + 1 + (E : Int) + 1 + 1) ((2 : Nat) : Int)).toNat = (D : Int)) := ⟨(nth [600, 601] (nxt zs (at_ + 1 + (E : Int) + 1 + 1) ((2 : Nat) : Int)).toNat).toNat, Lib.hid (by have := pr.out; show _ = _; omega)⟩
        have dr : D ≤ 601 := by have := pr.out; rw [hD.out] at this; omega
        rw [hD.out]
        have S5 := Lib.hid hs5
        have a5 := (a4.alloc (.cells #[.int .i64 600, .int .i64 601] 2)).trans o5
        have z5 := o5.size
        rw [World.size_alloc] at z5
        clear hs5 o5 pr a4
        go_wp2_with (at_make; refine wpList_make_full _ rfl _ _ _ rfl w.heap.size 2 i0 (.int .i64 0) 1 Try.underlying24 hi hz0 hz1 _ _ _ _ D rfl rfl rfl rfl (by rw [hz2]; omega) (by unfold maxLen; omega) (by omega) ?_; intro w6 o6 g6)
        have b6 : Below w5.heap.size w5 w6 := ⟨g6.os, g6.tape, g6.output, g6.size, fun i hi => g6.block i hi (by simp)⟩
        have OR := Lib.hid (show Own w6 w.heap.size w6.heap.size 2 .i64 (.slice (some ⟨w5.heap.size, 0, none⟩) D D) (List.replicate D 0) from Own.mk_ (by
          rw [show D * 1 = D by omega, show (Value.int .i64 0).cells = #[.int .i64 0] from rfl, toList_madeCells_one] at o6
          simpa [nums] using o6) (by simp))
        have S6 := Lib.hid (S5.out.below b6)
        have a6 := a5.trans (Out.of_below (lo := g) (hi := g + 1) b6)
        clear o6 g6 b6
        go_ret
        exact ⟨⟨_, List.replicate D 0, _, rfl, OR.out, by simp; omega, fun t ht => by have := (List.mem_replicate.1 ht).2; omega, by omega, by omega, S6.out⟩, a6⟩
    · have f1 : (N == 1) = false := by simpa using h1
      clear h0 h1
      go_wp2
      go_ret
      exact ⟨⟨_, ts, _, rfl, OT3.out.more (Nat.le_refl _) (by omega), by omega, HT.out, by omega, by omega, S3.out⟩, a3⟩

set_option maxRecDepth 100000 in
set_option maxHeartbeats 1000000 in
theorem drawMatchesOf_any (A : Option Addr) (c : Nat) (zs : List Int) (w : World) (hr : Rd w w.heap.size A (nums .u8 zs)) (hb : ∀ b ∈ zs, isByte b) (hl : zs.length < 2000000) :
    Calls Try.prog 14 #[.slice A zs.length c] w fun e w' => (∃ v, e = .returned v ∧ ∃ ts, Own w' w.heap.size w'.heap.size 2 .i64 v ts ∧ ts.length ≤ 601 ∧ Drawn ts) ∧ Below w.heap.size w w' := by
  go_enter Try.func14, Try.ntmps14
  go_wp2_with fail
  refine (l1Source_any A c zs w hr).mono ?_
  rintro e w1 ⟨rfl, hs1, b1⟩
  have z1 := b1.size
  go_wp2_with fail
  refine (l3Bent_any w.heap.size zs 0 w1 hs1 hb hl (by omega)).mono ?_
  rintro e w2 ⟨⟨v, ts, at2, rfl, ot, lt, dt, _, _, hs2⟩, o2⟩
  have bo := out_new b1 o2
  have OT := Lib.hid ot
  have DT := Lib.hid dt
  obtain ⟨A2, c2, rfl⟩ := ot.form
  clear o2 hs2 hs1 b1 ot dt
  go_wp2
  go_ret
  exact ⟨⟨_, rfl, ts, OT.out.more (by omega) (Nat.le_refl _), lt, DT.out⟩, bo⟩

set_option maxRecDepth 100000 in
set_option maxHeartbeats 2000000 in
theorem drawSplitText_any (A : Option Addr) (c : Nat) (zs : List Int) (w : World) (hr : Rd w w.heap.size A (nums .u8 zs)) (hb : ∀ b ∈ zs, isByte b) (hl : zs.length < 2000000) :
    Calls Try.prog 12 #[.slice A zs.length c] w fun e w' => (∃ v, e = .returned v ∧ ∃ ts, Own w' w.heap.size w'.heap.size 2 .i64 v ts ∧ ts.length ≤ 700 ∧ Drawn ts) ∧ Below w.heap.size w w' := by
  obtain ⟨i0, hi, hz0, hz1, hz2⟩ := info_parts info_int64
  have HB := Lib.hid hb
  clear hb
  go_enter Try.func12, Try.ntmps12
  go_wp2_with fail
  refine (l1Source_any A c zs w hr).mono ?_
  rintro e w1 ⟨rfl, hs1, b1⟩
  have gl := hs1.lt
  go_wp2_with fail
  refine (l3Bent_any w.heap.size zs 0 w1 hs1 HB.out hl (by omega)).mono ?_
  rintro e w2 ⟨⟨v, ts, at2, rfl, ot, lt, dt, t0, t1, hs2⟩, o2⟩
  obtain ⟨A2, c2, rfl⟩ := ot.form
  have OT := Lib.hid ot
  have DT := Lib.hid dt
  have S2 := Lib.hid hs2
  have B1 := Lib.hid b1
  have a2 := o2
  have z2 := o2.size
  clear o2 hs2 hs1 b1 ot dt hr
  have n4 := nxt_range zs at2 4 (by omega)
  obtain ⟨N, hN⟩ : ∃ N : Nat, Hid (nxt zs at2 4 = (N : Int)) := ⟨(nxt zs at2 4).toNat, Lib.hid (by show _ = _; omega)⟩
  rw [hN.out] at n4
  go_wp2_with fail
  refine (next_src w.heap.size zs at2 4 w2 S2.out HB.out hl (by omega) (by omega)).mono ?_
  rintro e w3 ⟨rfl, hs3, o3⟩
  rw [hN.out]
  have S3 := Lib.hid hs3
  have a3 := a2.trans o3
  have OT3 := Lib.hid ((OT.out.out o3 (.inr (by omega))).1)
  clear hs3 o3 a2 OT
  have A3 := Lib.hid a3
  clear a3
  go_wp2
  go_loopw [4, 5] (fun v nv wr => ∃ (k : Nat) (ts : List Int) (at3 : Int), k ≤ N ∧ nv = .int .i64 ((N : Int) - k) ∧ ts.length ≤ 601 + 20 * k ∧ 0 ≤ at3 ∧ at3 ≤ 100 + 20 * k ∧ Hid (Drawn ts) ∧ Hid (wr.ownsRow w1.heap.size 2 1 v ts.length (nums .i64 ts)) ∧ Hid (Src wr w.heap.size zs at3) ∧ Hid (Out w.heap.size (w.heap.size + 1) w1 wr)) (fun _ nv _ => (intOf nv).toNat)
  case atStart => exact ⟨0, ts, at2 + 1, by omega, by simp, by omega, by omega, by omega, DT, OT3, S3, A3⟩
  case round =>
    clear OT3 S3 A3
    obtain ⟨k, ts, at3, hk, rfl, lt3, u0, u1, dt, ho, hsr, hou⟩ := hrel
    have sz := hou.out.size
    obtain ⟨A4, c4, rfl⟩ := own_form ho.out
    by_cases hlt : k < N
    · have c0 : (0 : Int) < (N : Int) - k := by omega
      have pr := Lib.hid ((by decide : ∀ y ∈ ([10, 13, 8233] : List Int), -1 ≤ y ∧ y ≤ 1114112) _ (pick_in [10, 13, 8233] zs at3 3 rfl (by omega)))
      go_wp2_with fail
      refine (l1Pick_any w.heap.size wr.heap.size 3 2 [10, 13, 8233] zs _ _ (Blk.new wr _ _) (by omega) rfl (by omega) (by omega) (hsr.out.alloc _) HB.out hl (by omega)).mono ?_
      rintro e w5 ⟨rfl, hs5, o5⟩
      obtain ⟨D, hD⟩ : ∃ D : Int, Hid (nth [10, 13, 8233] (nxt zs at3 ((3 : Nat) : Int)).toNat = D) := ⟨_, Lib.hid rfl⟩
      rw [hD.out] at pr ⊢
      have S5 := Lib.hid hs5
      have a5 := (hou.out.alloc (.cells #[.int .i64 10, .int .i64 13, .int .i64 8233] 2)).trans o5
      have z5 := o5.size
      rw [World.size_alloc] at z5
      have R5 := Lib.hid ((((Own.mk_ ho.out rfl).alloc (.cells #[.int .i64 10, .int .i64 13, .int .i64 8233] 2)).out o5 (.inr (by omega))).1)
      clear hs5 o5 ho hsr hou
      go_wp2_with (at_builtin; go_loud (refine wpList_app rfl _ _ _ rfl w1.heap.size Try.underlying24 hi hz0 hz1 hz2 rfl (by omega) rfl (R5.out.alloc _) rfl (Rd.lit w5 #[.int .i64 D] _) (m := 1) rfl (nums_one .i64 [D]) (by omega) (by omega) (by simp; omega) ?_); intro v' w6 o6 g6 a6; obtain ⟨A6, c6, rfl⟩ := own_form o6)
      have CL := Lib.hid (grown_close (news := [D]) gl (R5.out.alloc (.cells #[.int .i64 D] 2)) (S5.out.alloc _) (a5.alloc _) (by simpa [nums] using o6) rfl g6)
      have z6 := g6.size
      rw [World.size_alloc] at z6
      clear o6 g6 a6 R5 S5 a5
      have n3 := nxt_range zs (at3 + 1) 3 (by omega)
      obtain ⟨M, hM⟩ : ∃ M : Nat, Hid (nxt zs (at3 + 1) 3 = (M : Int)) := ⟨(nxt zs (at3 + 1) 3).toNat, Lib.hid (by show _ = _; omega)⟩
      rw [hM.out] at n3
      refine (next_src w.heap.size zs _ 3 w6 CL.out.2.1 HB.out hl (by omega) (by omega)).mono ?_
      rintro e w7 ⟨rfl, hs7, o7⟩
      rw [hM.out]
      have S7 := Lib.hid hs7
      have a7 := CL.out.2.2.trans o7
      have z7 := o7.size
      have R7 := Lib.hid ((((Own.mk_ CL.out.1 rfl)).out o7 (.inr (by omega))).1)
      clear hs7 o7 CL
      go_wp2_with fail
      refine (l1DrawText_any w.heap.size zs _ M w7 S7.out HB.out hl (by omega)).mono ?_
      rintro e w8 ⟨⟨v8, rfl, us, ou, lu, hu⟩, hs8, o8⟩
      obtain ⟨A8, c8, rfl⟩ := ou.form
      have S8 := Lib.hid hs8
      have a8 := a7.trans o8
      have z8 := o8.size
      have R8 := Lib.hid (((Own.mk_ R7.out rfl).out o8 (.inr (by omega))).1)
      have OU := Lib.hid (Rd.of ou.1)
      have HU := Lib.hid (Drawn.chr hu)
      have lu2 : us.length ≤ 3 := by omega
      clear hs8 o8 ou hu S7 a7 R7 lu
      have ll : (ts ++ [D]).length = ts.length + 1 := by simp
      rw [ll] at R8
      go_wp2_with (at_builtin; go_loud (refine wpList_app rfl _ _ _ rfl w1.heap.size Try.underlying24 hi hz0 hz1 hz2 rfl (by omega) rfl R8.out rfl OU.out (by rw [nums_length, Nat.mul_one]) (nums_one _ _) (by omega) (by omega) (by omega) ?_); intro v' w9 o9 g9 a9; obtain ⟨A9, c9, rfl⟩ := own_form o9)
      have CL := Lib.hid (grown_close (news := us) gl (by rw [ll]; exact R8.out) S8.out a8 (by rw [ll]; exact o9) rfl g9)
      have z9 := g9.size
      clear o9 g9 a9 R8 S8 a8 OU
      have DT2 := Lib.hid ((dt.out.app (Drawn.one pr.out)).app HU.out)
      refine (l1Chance_any w.heap.size zs _ 3 w9 CL.out.2.1 HB.out hl (by omega) (by omega)).mono ?_
      rintro e w10 ⟨rfl, hs10, o10⟩
      have S10 := Lib.hid hs10
      have a10 := CL.out.2.2.trans o10
      have z10 := o10.size
      have R10 := Lib.hid ((((Own.mk_ CL.out.1 rfl)).out o10 (.inr (by omega))).1)
      clear hs10 o10 CL
      have l2 : (ts ++ [D] ++ us).length = ts.length + 1 + us.length := by simp; omega
      rw [l2] at R10
      cases hC : (nxt zs (at3 + 1 + 1 + (M : Int)) 3 == 0)
      · have R11 : Hid (w10.ownsRow w1.heap.size 2 1 (.slice A9 (ts.length + 1 + us.length) c9) (ts ++ [D] ++ us).length (nums .i64 (ts ++ [D] ++ us))) := Lib.hid (by rw [l2]; exact R10.out)
        have A10 := Lib.hid a10
        clear a10
        go_wp2
        go_roundw
        case rel => exact ⟨k + 1, ts ++ [D] ++ us, _, by omega, by simp; omega, by rw [l2]; omega, by omega, by omega, DT2, R11, S10, A10⟩
        case measure => first | omega | (simp [intOf]; omega)
      · have pr2 := Lib.hid ((by decide : ∀ y ∈ ([13, 10] : List Int), -1 ≤ y ∧ y ≤ 1114112) _ (pick_in [13, 10] zs (at3 + 1 + 1 + (M : Int) + 1) 2 rfl (by omega)))
        go_wp2_with fail
        refine (l1Pick_any w.heap.size w10.heap.size 2 2 [13, 10] zs _ _ (Blk.new w10 _ _) (by omega) rfl (by omega) (by omega) (S10.out.alloc _) HB.out hl (by omega)).mono ?_
        rintro e w11 ⟨rfl, hs11, o11⟩
        obtain ⟨F, hF⟩ : ∃ F : Int, Hid (nth [13, 10] (nxt zs (at3 + 1 + 1 + (M : Int) + 1) ((2 : Nat) : Int)).toNat = F) := ⟨_, Lib.hid rfl⟩
        rw [hF.out] at pr2 ⊢
        have S11 := Lib.hid hs11
        have a11 := (a10.alloc (.cells #[.int .i64 13, .int .i64 10] 2)).trans o11
        have z11 := o11.size
        rw [World.size_alloc] at z11
        have R11 := Lib.hid ((((Own.mk_ (zs := ts ++ [D] ++ us) (by rw [l2] at *; exact R10.out) l2.symm).alloc (.cells #[.int .i64 13, .int .i64 10] 2)).out o11 (.inr (by omega))).1)
        rw [l2] at R11
        clear hs11 o11 R10 S10 a10
        go_wp2_with (at_builtin; go_loud (refine wpList_app rfl _ _ _ rfl w1.heap.size Try.underlying24 hi hz0 hz1 hz2 rfl (by omega) rfl (R11.out.alloc _) rfl (Rd.lit w11 #[.int .i64 F, .int .i64 10] _) (m := 2) rfl (nums_one .i64 [F, 10]) (by omega) (by omega) (by simp; omega) ?_); intro v' w12 o12 g12 a12; obtain ⟨A12, c12, rfl⟩ := own_form o12)
        have CL := Lib.hid (grown_close (news := [F, 10]) gl (by rw [l2]; exact R11.out.alloc (.cells #[.int .i64 F, .int .i64 10] 2)) (S11.out.alloc _) (a11.alloc _) (by rw [l2]; simpa [nums] using o12) rfl g12)
        have R12 := Lib.hid CL.out.1
        have S12 := Lib.hid CL.out.2.1
        have A12' := Lib.hid CL.out.2.2
        have DT3 := Lib.hid ((DT2.out.app (Drawn.one pr2.out)).app (Drawn.one (x := 10) (by omega)))
        have l3 : (ts ++ [D] ++ us ++ [F, 10]).length = ts.length + 1 + us.length + 2 := by simp; omega
        rw [l3] at R12
        clear o12 g12 a12 CL R11 S11 a11
        go_roundw
        case rel => exact ⟨k + 1, ts ++ [D] ++ us ++ [F, 10], _, by omega, by simp; omega, by rw [l3]; omega, by omega, by omega, Lib.hid (by have := DT3.out; rwa [List.append_assoc _ [F]] at this), by rw [l3]; exact R12, S12, A12'⟩
        case measure => first | omega | (simp [intOf]; omega)
    · have c0 : ¬ (0 : Int) < (N : Int) - k := by omega
      go_wp2
      go_ret
      exact ⟨⟨_, rfl, ts, (Own.mk_ ho.out rfl).more (by have := B1.out.size; omega) (Nat.le_refl _), by omega, dt.out⟩, out_new B1.out hou.out⟩
end Go.Proofs.Ytmkpbfghnkmcgaa
