/- The draws of chapter 1: texts to encode, texts to compare. -/
import Derived.Test.YtmkpbfghnkmcgaaDoorD4
namespace Go.Proofs.YtmkpbfghnkmcgaaDoor
open Go.RowKit

/-- behind an append of one number -/
theorem dt_close {w w1 w2 : World} {g lo : Nat} {zs ts : List Int} {at2 x : Int} {v v' : Value} (gl : g < lo) (hlo : w.heap.size ≤ lo) (r1 : w1.ownsRow lo 2 1 v ts.length (nums .i64 ts)) (S1 : Src w1 g zs at2) (ou1 : Out g (g + 1) w w1)
    (o2 : w2.ownsRow lo 2 1 v' (ts.length + 1) (nums .i64 ts ++ [.int .i64 x])) (g2 : w1.grownBy w2 v.ownBlock) :
    Own w2 lo w2.heap.size 2 .i64 v' (ts ++ [x]) ∧ Src w2 g zs at2 ∧ Out g (g + 1) w w2 := by
  have ro := row_out r1 g2
  exact ⟨Own.mk_ (n := ts.length + 1) (by simpa [nums] using o2) (by simp), S1.out ro gl, ou1.later ro hlo⟩

set_option maxRecDepth 100000 in
set_option maxHeartbeats 2000000 in
theorem drawEncodeText_any (A : Option Addr) (c : Nat) (zs : List Int) (w : World) (hr : Rd w w.heap.size A (nums .u8 zs)) (hb : ∀ b ∈ zs, isByte b) (hl : zs.length < 2000000) :
    Calls Tryd.prog 5 #[.slice A zs.length c] w fun e w' => (∃ v, e = .returned v ∧ ∃ ts, Own w' w.heap.size w'.heap.size 2 .i64 v ts ∧ ts.length ≤ 601 ∧ ∀ t ∈ ts, -1 ≤ t ∧ t ≤ 1114112) ∧ Below w.heap.size w w' := by
  obtain ⟨i0, hi, hz0, hz1, hz2⟩ := info_parts info_int64
  have HB := Lib.hid hb
  clear hb
  go_enter Tryd.func5, Tryd.ntmps5
  go_wp2_with fail
  refine (l1Source_any A c zs w hr).mono ?_
  rintro e w1 ⟨rfl, hs1, b1⟩
  have S1 := Lib.hid hs1
  have gl := hs1.lt
  clear hr hs1
  have z0 := nxt_range zs 0 9 (by omega)
  obtain ⟨n, hn⟩ : ∃ n : Nat, Hid (nxt zs 0 9 = n) := ⟨(nxt zs 0 9).toNat, Lib.hid (by omega)⟩
  rw [hn.out] at z0
  go_wp2_with fail
  refine (next_src w.heap.size zs 0 9 w1 S1.out HB.out hl (by omega) (by omega)).mono ?_
  rintro e w2 ⟨rfl, hs2, o2⟩
  rw [hn.out]
  have S2 := Lib.hid hs2
  have a2 := o2
  have z2 := o2.size
  clear hs2 o2
  go_wp2_with fail
  refine (l1DrawText_any w.heap.size zs _ n w2 S2.out HB.out hl (by omega)).mono ?_
  rintro e w3 ⟨⟨v, rfl, ts, ot, lt, ht⟩, hs3, o3⟩
  have S3 := Lib.hid hs3
  have OT := Lib.hid ot
  have a3 := a2.trans o3
  have z3 := o3.size
  clear hs3 o3 ot
  obtain ⟨A3, c3, rfl⟩ := OT.out.form
  have lt2 : ts.length ≤ 9 := by omega
  have LT := Lib.hid lt
  clear lt
  go_wp2_with fail
  refine (l1Pick_any w.heap.size w3.heap.size 8 2 [0, 127, 128, 2047, 2048, 65535, 65536, 1114111] zs _ _ (Blk.new w3 _ _) (by omega) rfl (by omega) (by omega) (S3.out.alloc _) HB.out hl (by omega)).mono ?_
  rintro e w4 ⟨rfl, hs4, o4⟩
  have pr := (by decide : ∀ y ∈ ([0, 127, 128, 2047, 2048, 65535, 65536, 1114111] : List Int), -1 ≤ y ∧ y ≤ 1114112) _ (pick_in [0, 127, 128, 2047, 2048, 65535, 65536, 1114111] zs (0 + 1 + n) 8 rfl (by omega))
  obtain ⟨p, hp⟩ : ∃ p : Int, Hid (p = nth [0, 127, 128, 2047, 2048, 65535, 65536, 1114111] (nxt zs (0 + 1 + n) ((8 : Nat) : Int)).toNat) := ⟨_, Lib.hid rfl⟩
  rw [← hp.out] at pr ⊢
  have S4 := Lib.hid hs4
  have OT4 := Lib.hid ((OT.out.alloc _).out o4 (.inr (by omega)))
  have a4 := (a3.alloc _).trans o4
  have z4 := o4.size
  rw [World.size_alloc] at z4
  clear hs4 o4
  go_wp2_with (at_builtin; refine wpList_app rfl _ _ _ rfl w2.heap.size Tryd.underlying24 hi hz0 hz1 hz2 rfl (by omega) rfl ((OT4.out.alloc _).1) rfl (Rd.lit _ #[.int .i64 p] _) (m := 1) rfl (nums_one .i64 [p]) (by omega) (by omega) (by simp; omega) ?_; intro v' w5 o5 g5 _)
  have hf : Hid (∀ t ∈ ts ++ [p], -1 ≤ t ∧ t ≤ 1114112) := Lib.hid (fun t h => by
    rcases List.mem_append.1 h with h | h
    · have := chrB_range (ht t h); omega
    · rw [List.mem_singleton.1 h]; exact pr)
  have fin := dt_close (x := p) (by omega) (by omega) (OT4.out.alloc _).1 (S4.out.alloc _) (a4.alloc _) o5 g5
  have z5 := g5.size
  rw [World.size_alloc] at z5
  obtain ⟨t5, ht5⟩ : ∃ t5, Hid (t5 = ts ++ [p]) := ⟨_, Lib.hid rfl⟩
  have l5 : t5.length ≤ 10 := by rw [ht5.out]; simp; omega
  rw [← ht5.out] at fin hf
  have O5 := Lib.hid fin.1
  have S5 := Lib.hid fin.2.1
  have a5 := fin.2.2
  clear fin o5 g5 ht
  obtain ⟨A5, c5, rfl⟩ := O5.out.form
  have xr := nxt_range zs (0 + 1 + n + 1) 12 (by omega)
  obtain ⟨x, hx⟩ : ∃ x, Hid (x = nxt zs (0 + 1 + n + 1) 12) := ⟨_, Lib.hid rfl⟩
  rw [← hx.out] at xr
  go_wp2_with fail
  refine (next_src w.heap.size zs _ 12 w5 S5.out HB.out hl (by omega) (by omega)).mono ?_
  rintro e w6 ⟨rfl, hs6, o6⟩
  rw [← hx.out]
  have S6 := Lib.hid hs6
  have O6 := Lib.hid (O5.out.out o6 (.inr (by omega)))
  have a6 := a5.trans o6
  have z6 := o6.size
  clear hs6 o6
  by_cases x0 : x = 0
  · have y0 : (x == 0) = true := by simp [x0]
    clear x0 xr
    go_wp2_with fail
    refine (l1Pick_any w.heap.size w6.heap.size 3 2 [55296, 1114112, -1] zs _ _ (Blk.new w6 _ _) (by omega) rfl (by omega) (by omega) (S6.out.alloc _) HB.out hl (by omega)).mono ?_
    rintro e w7 ⟨rfl, hs7, o7⟩
    have pr := (by decide : ∀ y ∈ ([55296, 1114112, -1] : List Int), -1 ≤ y ∧ y ≤ 1114112) _ (pick_in [55296, 1114112, -1] zs (0 + 1 + n + 1 + 1) 3 rfl (by omega))
    obtain ⟨q, hq⟩ : ∃ q : Int, Hid (q = nth [55296, 1114112, -1] (nxt zs (0 + 1 + n + 1 + 1) ((3 : Nat) : Int)).toNat) := ⟨_, Lib.hid rfl⟩
    rw [← hq.out] at pr ⊢
    have S7 := Lib.hid hs7
    have O7 := Lib.hid ((O6.out.alloc _).out o7 (.inr (by omega)))
    have a7 := (a6.alloc _).trans o7
    have z7 := o7.size
    rw [World.size_alloc] at z7
    clear hs7 o7
    go_wp2_with (at_builtin; refine wpList_app rfl _ _ _ rfl w2.heap.size Tryd.underlying24 hi hz0 hz1 hz2 rfl (by omega) rfl ((O7.out.alloc _).1) rfl (Rd.lit _ #[.int .i64 q] _) (m := 1) rfl (nums_one .i64 [q]) (by omega) (by omega) (by simp; omega) ?_; intro v' w8 o8 g8 _)
    have hf8 : ∀ t ∈ t5 ++ [q], -1 ≤ t ∧ t ≤ 1114112 := fun t h => by
      rcases List.mem_append.1 h with h | h
      · exact hf.out t h
      · rw [List.mem_singleton.1 h]; exact pr
    have fin := dt_close (x := q) (by omega) (by omega) (O7.out.alloc _).1 (S7.out.alloc _) (a7.alloc _) o8 g8
    clear o8 g8
    go_ret
    exact ⟨⟨_, rfl, _, fin.1.more (by omega) (Nat.le_refl _), by simp; omega, hf8⟩, out_new b1 fin.2.2⟩
  · have y0 : (x == 0) = false := beq_eq_false_iff_ne.2 x0
    by_cases x1 : x = 1
    · have y1 : (x == 1) = true := by simp [x1]
      clear x0 x1 xr
      go_wp2_with fail
      refine (l1Chance_any w.heap.size zs _ 3 w6 S6.out HB.out hl (by omega) (by omega)).mono ?_
      rintro e w7 ⟨rfl, hs7, o7⟩
      have S7 := Lib.hid hs7
      have O7 := Lib.hid (O6.out.out o7 (.inr (by omega)))
      have a7 := a6.trans o7
      have z7 := o7.size
      clear hs7 o7
      cases hS : (nxt zs (0 + 1 + n + 1 + 1) 3 == 0)
      · go_wp2
        go_ret
        exact ⟨⟨_, rfl, _, O7.out.more (by omega) (by omega), by omega, hf.out⟩, out_new b1 a7⟩
      · go_wp2_with fail
        refine (l1Pick_any w.heap.size w7.heap.size 2 2 [600, 601] zs _ _ (Blk.new w7 _ _) (by omega) rfl (by omega) (by omega) (S7.out.alloc _) HB.out hl (by omega)).mono ?_
        rintro e w8 ⟨rfl, hs8, o8⟩
        have pr := (by decide : ∀ y ∈ ([600, 601] : List Int), 600 ≤ y ∧ y ≤ 601) _ (pick_in [600, 601] zs (0 + 1 + n + 1 + 1 + 1) 2 rfl (by omega))
        obtain ⟨p, hp⟩ : ∃ p : Nat, Hid ((p : Int) = nth [600, 601] (nxt zs (0 + 1 + n + 1 + 1 + 1) ((2 : Nat) : Int)).toNat) := ⟨(nth [600, 601] (nxt zs (0 + 1 + n + 1 + 1 + 1) ((2 : Nat) : Int)).toNat).toNat, Lib.hid (by omega)⟩
        rw [← hp.out] at pr ⊢
        have bo := out_new b1 ((a7.alloc _).trans o8)
        have b3 := bo.size
        clear o8 hs8
        go_wp2_with (at_make; refine wpList_make_full _ rfl _ _ _ rfl w.heap.size 2 i0 (.int .i64 0) 1 Tryd.underlying24 hi hz0 hz1 _ _ _ _ p rfl rfl rfl rfl (by rw [hz2]; omega) (by unfold maxLen; omega) b3 ?_; intro w9 hown1 hg1)
        rw [show (Value.int IntKind.i64 0).cells = #[.int .i64 0] from rfl, Nat.mul_one, toList_madeCells_one] at hown1
        have bw : Below w.heap.size w w9 := bo.grown hg1 b3 (by simp)
        go_ret
        exact ⟨⟨_, rfl, List.replicate p 0, Own.mk_ (n := p) (by simpa [nums] using hown1) (by simp), by simp; omega, fun b hb => by rw [(List.mem_replicate.1 hb).2]; omega⟩, bw⟩
    · have y1 : (x == 1) = false := beq_eq_false_iff_ne.2 x1
      go_wp2
      go_ret
      exact ⟨⟨_, rfl, _, O6.out.more (by omega) (by omega), by omega, hf.out⟩, out_new b1 a6⟩
end Go.Proofs.YtmkpbfghnkmcgaaDoor
