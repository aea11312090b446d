/- FnExactDecodeChunk: the law returns true at every two slices of bytes and leaves all memory that was there as it was. Condition: the library's two tables hold what they are laid with (the card ties them). -/
import Derived.Test.YtgpnkkobjbojnaaDoorT9
import Derived.Test.YtgpnkkobjbojnaaDoorH2
import Derived.Test.YtgpnkkobjbojnaaDoorT4
namespace Go.Proofs.YtgpnkkobjbojnaaDoor.fnExactDecodeChunk
open Go.ChangeShapes Go.WideShapes Go.ChangeAt Go.RowKit

set_option maxHeartbeats 1000000 in
theorem walk {w : World} (hT : Tabs w) (A0 : Option Addr) (zs0 : List Int) (c0 : Nat) (A1 : Option Addr) (zs1 : List Int) (c1 : Nat) (r0 : Rd w w.heap.size A0 (nums .u8 zs0)) (hw0 : ∀ n ∈ zs0, (Lit.int .u8 n).wf = true) (r1 : Rd w w.heap.size A1 (nums .u8 zs1)) (hw1 : ∀ n ∈ zs1, (Lit.int .u8 n).wf = true) :
    Calls Tryd.prog 5 #[.slice A0 zs0.length c0, .slice A1 zs1.length c1] w fun e w' => e = .returned (.bool true) ∧ Below w.heap.size w w' := by
  by_cases hl0 : 1048576 < zs0.length
  · go_enter Tryd.func5, Tryd.ntmps5
    go_wp2
    go_ret
    exact ⟨rfl, Below.refl _ _⟩
  by_cases hl1 : 1048576 < zs1.length
  · go_enter Tryd.func5, Tryd.ntmps5
    go_wp2
    go_ret
    exact ⟨rfl, Below.refl _ _⟩
  have l0 : zs0.length < 1000000000 := by omega
  have a0 : Sees w w.heap.size .u8 (.slice A0 zs0.length c0) zs0 := ⟨_, _, rfl, r0⟩
  replace hl0 := Nat.le_of_not_lt hl0
  have l1 : zs1.length < 1000000000 := by omega
  have a1 : Sees w w.heap.size .u8 (.slice A1 zs1.length c1) zs1 := ⟨_, _, rfl, r1⟩
  replace hl1 := Nat.le_of_not_lt hl1
  have g1 : (chunkT zs0 zs1).length < 1000000000 := by have := (chunk_lens zs0 zs1).1; omega
  have g2 : (chunkR zs0 zs1).length < 1000000000 := by have := (chunk_lens zs0 zs1).2; omega
  have hT0 := hT.lt
  have hb := Below.refl w.heap.size w
  go_enter Tryd.func5, Tryd.ntmps5
  go_wp2_with fail
  refine (toByteS_own _ _ _ _ a0 (by omega) (by omega)).mono ?_
  rintro e w1 ⟨⟨v1, rfl, o1⟩, b1⟩
  have s1 := b1.size
  replace a0 := a0.below b1 (by omega)
  replace a1 := a1.below b1 (by omega)
  replace hT := hT.on b1
  replace hb := below_on hb b1 (Nat.le_refl _)
  go_wp2_with fail
  refine (toByteS_own _ _ _ _ a1 (by omega) (by omega)).mono ?_
  rintro e w2 ⟨⟨v2, rfl, o2⟩, b2⟩
  have s2 := b2.size
  replace a0 := a0.below b2 (by omega)
  replace a1 := a1.below b2 (by omega)
  replace hT := hT.on b2
  replace o1 := o1.below b2 (by omega)
  replace hb := below_on hb b2 (Nat.le_refl _)
  go_wp2_with fail
  refine (specDecodeChunk_val _ _ _ _ _ hT _ o1.sees (by omega) l0 hw0 _ o2.sees (by omega) l1 hw1).mono ?_
  rintro e w3 ⟨⟨u3_1, u3_2, rfl, p3_1, p3_2, d3⟩, b3⟩
  obtain ⟨U3_1, C3_1, rfl⟩ := p3_1.form
  obtain ⟨U3_2, C3_2, rfl⟩ := p3_2.form
  have s3 := b3.size
  replace a0 := a0.below b3 (by omega)
  replace a1 := a1.below b3 (by omega)
  replace hT := hT.on b3
  replace o1 := o1.below b3 (by omega)
  replace o2 := o2.below b3 (by omega)
  replace hb := below_on hb b3 (Nat.le_refl _)
  go_wp2_with fail
  refine (toByteS_own _ _ _ _ (a0.alloc (by omega) _) (by simp <;> omega) (by omega)).mono ?_
  rintro e w4 ⟨⟨v4, rfl, o4⟩, b4⟩
  replace o4 := o4.more (Nat.succ_le_of_lt (alloc_lt _ _)) (Nat.le_refl _)
  have k4 := (Blk.new w3 32 #[.int .i64 (chunkC zs0 zs1), .slice U3_1 (chunkT zs0 zs1).length C3_1, .slice U3_2 (chunkR zs0 zs1).length C3_2]).below b4 (by simp)
  have t4 := k4.lt
  replace b4 := below_alloc b4
  have s4 := b4.size
  replace a0 := a0.below b4 (by omega)
  replace a1 := a1.below b4 (by omega)
  replace hT := hT.on b4
  replace p3_1 := p3_1.below b4 (by omega)
  replace p3_2 := p3_2.below b4 (by omega)
  replace hb := below_on hb b4 (Nat.le_refl _)
  have ck40 := k4.cell 0 (u := .int .i64 (chunkC zs0 zs1)) rfl
  have ck41 := k4.cell 1 (u := .slice U3_1 (chunkT zs0 zs1).length C3_1) rfl
  have ck42 := k4.cell 2 (u := .slice U3_2 (chunkR zs0 zs1).length C3_2) rfl
  go_wp2_with fail
  clear ck40 ck41 ck42
  refine (toByteS_own _ _ _ _ a1 (by omega) (by omega)).mono ?_
  rintro e w5 ⟨⟨v5, rfl, o5⟩, b5⟩
  have s5 := b5.size
  replace a0 := a0.below b5 (by omega)
  replace a1 := a1.below b5 (by omega)
  replace hT := hT.on b5
  replace p3_1 := p3_1.below b5 (by omega)
  replace p3_2 := p3_2.below b5 (by omega)
  replace k4 := k4.below b5 k4.lt
  replace o4 := o4.below b5 (by omega)
  replace hb := below_on hb b5 (Nat.le_refl _)
  have ck40 := k4.cell 0 (u := .int .i64 (chunkC zs0 zs1)) rfl
  have ck41 := k4.cell 1 (u := .slice U3_1 (chunkT zs0 zs1).length C3_1) rfl
  have ck42 := k4.cell 2 (u := .slice U3_2 (chunkR zs0 zs1).length C3_2) rfl
  go_wp2_with fail
  clear ck40 ck41 ck42
  refine (decodeChunk_val _ _ _ _ _ hT _ o4.sees (by omega) l0 hw0 _ o5.sees (by omega) l1 hw1).mono ?_
  rintro e w6 ⟨⟨u6_1, u6_2, rfl, p6_1, p6_2, d6⟩, b6⟩
  obtain ⟨U6_1, C6_1, rfl⟩ := p6_1.form
  obtain ⟨U6_2, C6_2, rfl⟩ := p6_2.form
  have s6 := b6.size
  replace a0 := a0.below b6 (by omega)
  replace a1 := a1.below b6 (by omega)
  replace hT := hT.on b6
  replace p3_1 := p3_1.below b6 (by omega)
  replace p3_2 := p3_2.below b6 (by omega)
  replace k4 := k4.below b6 k4.lt
  replace o4 := o4.below b6 (by omega)
  replace o5 := o5.below b6 (by omega)
  replace hb := below_on hb b6 (Nat.le_refl _)
  have ck40 := (k4.alloc (.cells #[.int .i64 (chunkC zs0 zs1), .slice U6_1 (chunkT zs0 zs1).length C6_1, .slice U6_2 (chunkR zs0 zs1).length C6_2] 32)).cell 0 (u := .int .i64 (chunkC zs0 zs1)) rfl
  have ck41 := (k4.alloc (.cells #[.int .i64 (chunkC zs0 zs1), .slice U6_1 (chunkT zs0 zs1).length C6_1, .slice U6_2 (chunkR zs0 zs1).length C6_2] 32)).cell 1 (u := .slice U3_1 (chunkT zs0 zs1).length C3_1) rfl
  have ck42 := (k4.alloc (.cells #[.int .i64 (chunkC zs0 zs1), .slice U6_1 (chunkT zs0 zs1).length C6_1, .slice U6_2 (chunkR zs0 zs1).length C6_2] 32)).cell 2 (u := .slice U3_2 (chunkR zs0 zs1).length C3_2) rfl
  go_wp2_with fail
  clear ck40 ck41 ck42
  refine (eqDecodeResult_same _ _ _ _ _ _ _ _ _ _ ((p6_1.alloc _).sees) ((p3_1.alloc _).sees) g1 ((p6_2.alloc _).sees) ((p3_2.alloc _).sees) g2 (by simp <;> omega) (by simp <;> omega)).mono ?_
  rintro e w7 ⟨rfl, b7⟩
  have k7 := (Blk.new w6 32 #[.int .i64 (chunkC zs0 zs1), .slice U6_1 (chunkT zs0 zs1).length C6_1, .slice U6_2 (chunkR zs0 zs1).length C6_2]).below b7 (by simp)
  have t7 := k7.lt
  replace b7 := below_alloc b7
  have s7 := b7.size
  replace a0 := a0.below b7 (by omega)
  replace a1 := a1.below b7 (by omega)
  replace hT := hT.on b7
  replace p3_1 := p3_1.below b7 (by omega)
  replace p3_2 := p3_2.below b7 (by omega)
  replace k4 := k4.below b7 k4.lt
  replace o4 := o4.below b7 (by omega)
  replace o5 := o5.below b7 (by omega)
  replace p6_1 := p6_1.below b7 (by omega)
  replace p6_2 := p6_2.below b7 (by omega)
  replace hb := below_on hb b7 (Nat.le_refl _)
  have ck40 := k4.cell 0 (u := .int .i64 (chunkC zs0 zs1)) rfl
  have ck41 := k4.cell 1 (u := .slice U3_1 (chunkT zs0 zs1).length C3_1) rfl
  have ck42 := k4.cell 2 (u := .slice U3_2 (chunkR zs0 zs1).length C3_2) rfl
  have ck70 := k7.cell 0 (u := .int .i64 (chunkC zs0 zs1)) rfl
  have ck71 := k7.cell 1 (u := .slice U6_1 (chunkT zs0 zs1).length C6_1) rfl
  have ck72 := k7.cell 2 (u := .slice U6_2 (chunkR zs0 zs1).length C6_2) rfl
  go_wp2_with fail
  clear ck40 ck41 ck42 ck70 ck71 ck72
  refine (toByteS_own _ _ _ _ a0 (by omega) (by omega)).mono ?_
  rintro e w8 ⟨⟨v8, rfl, o8⟩, b8⟩
  have s8 := b8.size
  replace a0 := a0.below b8 (by omega)
  replace a1 := a1.below b8 (by omega)
  replace hT := hT.on b8
  replace p3_1 := p3_1.below b8 (by omega)
  replace p3_2 := p3_2.below b8 (by omega)
  replace k4 := k4.below b8 k4.lt
  replace o4 := o4.below b8 (by omega)
  replace o5 := o5.below b8 (by omega)
  replace p6_1 := p6_1.below b8 (by omega)
  replace p6_2 := p6_2.below b8 (by omega)
  replace k7 := k7.below b8 k7.lt
  replace hb := below_on hb b8 (Nat.le_refl _)
  have ck40 := k4.cell 0 (u := .int .i64 (chunkC zs0 zs1)) rfl
  have ck41 := k4.cell 1 (u := .slice U3_1 (chunkT zs0 zs1).length C3_1) rfl
  have ck42 := k4.cell 2 (u := .slice U3_2 (chunkR zs0 zs1).length C3_2) rfl
  have ck70 := k7.cell 0 (u := .int .i64 (chunkC zs0 zs1)) rfl
  have ck71 := k7.cell 1 (u := .slice U6_1 (chunkT zs0 zs1).length C6_1) rfl
  have ck72 := k7.cell 2 (u := .slice U6_2 (chunkR zs0 zs1).length C6_2) rfl
  go_wp2_with fail
  clear ck40 ck41 ck42 ck70 ck71 ck72
  refine (eqByteS_same _ _ _ _ _ _ o4.sees o8.sees (by omega)).mono ?_
  rintro e w9 ⟨rfl, n9, e9⟩
  have b9 := below_drawn e9
  clear e9
  have s9 := b9.size
  replace a0 := a0.below b9 (by omega)
  replace a1 := a1.below b9 (by omega)
  replace hT := hT.on b9
  replace p3_1 := p3_1.below b9 (by omega)
  replace p3_2 := p3_2.below b9 (by omega)
  replace k4 := k4.below b9 k4.lt
  replace o4 := o4.below b9 (by omega)
  replace o5 := o5.below b9 (by omega)
  replace p6_1 := p6_1.below b9 (by omega)
  replace p6_2 := p6_2.below b9 (by omega)
  replace k7 := k7.below b9 k7.lt
  replace o8 := o8.below b9 (by omega)
  replace hb := below_on hb b9 (Nat.le_refl _)
  have ck40 := k4.cell 0 (u := .int .i64 (chunkC zs0 zs1)) rfl
  have ck41 := k4.cell 1 (u := .slice U3_1 (chunkT zs0 zs1).length C3_1) rfl
  have ck42 := k4.cell 2 (u := .slice U3_2 (chunkR zs0 zs1).length C3_2) rfl
  have ck70 := k7.cell 0 (u := .int .i64 (chunkC zs0 zs1)) rfl
  have ck71 := k7.cell 1 (u := .slice U6_1 (chunkT zs0 zs1).length C6_1) rfl
  have ck72 := k7.cell 2 (u := .slice U6_2 (chunkR zs0 zs1).length C6_2) rfl
  go_wp2_with fail
  clear ck40 ck41 ck42 ck70 ck71 ck72
  refine (toByteS_own _ _ _ _ a1 (by omega) (by omega)).mono ?_
  rintro e w10 ⟨⟨v10, rfl, o10⟩, b10⟩
  have s10 := b10.size
  replace a0 := a0.below b10 (by omega)
  replace a1 := a1.below b10 (by omega)
  replace hT := hT.on b10
  replace p3_1 := p3_1.below b10 (by omega)
  replace p3_2 := p3_2.below b10 (by omega)
  replace k4 := k4.below b10 k4.lt
  replace o4 := o4.below b10 (by omega)
  replace o5 := o5.below b10 (by omega)
  replace p6_1 := p6_1.below b10 (by omega)
  replace p6_2 := p6_2.below b10 (by omega)
  replace k7 := k7.below b10 k7.lt
  replace hb := below_on hb b10 (Nat.le_refl _)
  have ck40 := k4.cell 0 (u := .int .i64 (chunkC zs0 zs1)) rfl
  have ck41 := k4.cell 1 (u := .slice U3_1 (chunkT zs0 zs1).length C3_1) rfl
  have ck42 := k4.cell 2 (u := .slice U3_2 (chunkR zs0 zs1).length C3_2) rfl
  have ck70 := k7.cell 0 (u := .int .i64 (chunkC zs0 zs1)) rfl
  have ck71 := k7.cell 1 (u := .slice U6_1 (chunkT zs0 zs1).length C6_1) rfl
  have ck72 := k7.cell 2 (u := .slice U6_2 (chunkR zs0 zs1).length C6_2) rfl
  go_wp2_with fail
  clear ck40 ck41 ck42 ck70 ck71 ck72
  refine (eqByteS_same _ _ _ _ _ _ o5.sees o10.sees (by omega)).mono ?_
  rintro e w11 ⟨rfl, n11, e11⟩
  have b11 := below_drawn e11
  clear e11
  have s11 := b11.size
  replace a0 := a0.below b11 (by omega)
  replace a1 := a1.below b11 (by omega)
  replace hT := hT.on b11
  replace p3_1 := p3_1.below b11 (by omega)
  replace p3_2 := p3_2.below b11 (by omega)
  replace k4 := k4.below b11 k4.lt
  replace o4 := o4.below b11 (by omega)
  replace o5 := o5.below b11 (by omega)
  replace p6_1 := p6_1.below b11 (by omega)
  replace p6_2 := p6_2.below b11 (by omega)
  replace k7 := k7.below b11 k7.lt
  replace o10 := o10.below b11 (by omega)
  replace hb := below_on hb b11 (Nat.le_refl _)
  have ck40 := k4.cell 0 (u := .int .i64 (chunkC zs0 zs1)) rfl
  have ck41 := k4.cell 1 (u := .slice U3_1 (chunkT zs0 zs1).length C3_1) rfl
  have ck42 := k4.cell 2 (u := .slice U3_2 (chunkR zs0 zs1).length C3_2) rfl
  have ck70 := k7.cell 0 (u := .int .i64 (chunkC zs0 zs1)) rfl
  have ck71 := k7.cell 1 (u := .slice U6_1 (chunkT zs0 zs1).length C6_1) rfl
  have ck72 := k7.cell 2 (u := .slice U6_2 (chunkR zs0 zs1).length C6_2) rfl
  go_wp2_with fail
  clear ck40 ck41 ck42 ck70 ck71 ck72
  refine (markByteS_own _ _ _ _ _ _ o4 l0 (by omega) (by omega)).mono ?_
  rintro e w12 ⟨⟨rfl, -⟩, g12_⟩
  have q12 := Out.of_grown g12_ o4.lt
  clear g12_
  have s12 := q12.size
  replace a0 := a0.out q12 (by omega) (by omega)
  replace a1 := a1.out q12 (by omega) (by omega)
  replace hT := hT.out q12 (by omega) (by omega)
  replace p3_1 := p3_1.out q12 (by omega)
  replace p3_2 := p3_2.out q12 (by omega)
  replace k4 := k4.out q12 (by omega)
  replace o5 := o5.out q12 (by omega)
  replace p6_1 := p6_1.out q12 (by omega)
  replace p6_2 := p6_2.out q12 (by omega)
  replace k7 := k7.out q12 (by omega)
  replace hb := hb.trans (q12.to_below (by omega) (by omega))
  have ck40 := k4.cell 0 (u := .int .i64 (chunkC zs0 zs1)) rfl
  have ck41 := k4.cell 1 (u := .slice U3_1 (chunkT zs0 zs1).length C3_1) rfl
  have ck42 := k4.cell 2 (u := .slice U3_2 (chunkR zs0 zs1).length C3_2) rfl
  have ck70 := k7.cell 0 (u := .int .i64 (chunkC zs0 zs1)) rfl
  have ck71 := k7.cell 1 (u := .slice U6_1 (chunkT zs0 zs1).length C6_1) rfl
  have ck72 := k7.cell 2 (u := .slice U6_2 (chunkR zs0 zs1).length C6_2) rfl
  go_wp2_with fail
  clear ck40 ck41 ck42 ck70 ck71 ck72
  refine (markByteS_own _ _ _ _ _ _ o5 l1 (by omega) (by omega)).mono ?_
  rintro e w13 ⟨⟨rfl, -⟩, g13_⟩
  have q13 := Out.of_grown g13_ o5.lt
  clear g13_
  have s13 := q13.size
  replace a0 := a0.out q13 (by omega) (by omega)
  replace a1 := a1.out q13 (by omega) (by omega)
  replace hT := hT.out q13 (by omega) (by omega)
  replace p3_1 := p3_1.out q13 (by omega)
  replace p3_2 := p3_2.out q13 (by omega)
  replace k4 := k4.out q13 (by omega)
  replace p6_1 := p6_1.out q13 (by omega)
  replace p6_2 := p6_2.out q13 (by omega)
  replace k7 := k7.out q13 (by omega)
  replace hb := hb.trans (q13.to_below (by omega) (by omega))
  have ck40 := k4.cell 0 (u := .int .i64 (chunkC zs0 zs1)) rfl
  have ck41 := k4.cell 1 (u := .slice U3_1 (chunkT zs0 zs1).length C3_1) rfl
  have ck42 := k4.cell 2 (u := .slice U3_2 (chunkR zs0 zs1).length C3_2) rfl
  have ck70 := k7.cell 0 (u := .int .i64 (chunkC zs0 zs1)) rfl
  have ck71 := k7.cell 1 (u := .slice U6_1 (chunkT zs0 zs1).length C6_1) rfl
  have ck72 := k7.cell 2 (u := .slice U6_2 (chunkR zs0 zs1).length C6_2) rfl
  go_wp2_with fail
  clear ck40 ck41 ck42 ck70 ck71 ck72
  refine (eqDecodeResult_same _ _ _ _ _ _ _ _ _ _ (p6_1.sees) (p3_1.sees) g1 (p6_2.sees) (p3_2.sees) g2 (by omega) (by omega)).mono ?_
  rintro e w14 ⟨rfl, b14⟩
  have s14 := b14.size
  replace a0 := a0.below b14 (by omega)
  replace a1 := a1.below b14 (by omega)
  replace hT := hT.on b14
  replace p3_1 := p3_1.below b14 (by omega)
  replace p3_2 := p3_2.below b14 (by omega)
  replace k4 := k4.below b14 k4.lt
  replace p6_1 := p6_1.below b14 (by omega)
  replace p6_2 := p6_2.below b14 (by omega)
  replace k7 := k7.below b14 k7.lt
  replace hb := below_on hb b14 (Nat.le_refl _)
  have ck40 := k4.cell 0 (u := .int .i64 (chunkC zs0 zs1)) rfl
  have ck41 := k4.cell 1 (u := .slice U3_1 (chunkT zs0 zs1).length C3_1) rfl
  have ck42 := k4.cell 2 (u := .slice U3_2 (chunkR zs0 zs1).length C3_2) rfl
  have ck70 := k7.cell 0 (u := .int .i64 (chunkC zs0 zs1)) rfl
  have ck71 := k7.cell 1 (u := .slice U6_1 (chunkT zs0 zs1).length C6_1) rfl
  have ck72 := k7.cell 2 (u := .slice U6_2 (chunkR zs0 zs1).length C6_2) rfl
  go_wp2_with fail
  clear ck40 ck41 ck42 ck70 ck71 ck72
  refine (markDecodeResult_own _ _ _ _ _ 1 _ _ _ p6_1 g1 p6_2 g2 d6 (own_ne_symm d6) (by omega) (by omega) (by omega)).mono ?_
  rintro e w15 ⟨⟨rfl, m6_1, m6_2⟩, q15⟩
  have s15 := q15.size
  replace a0 := a0.out q15 (by omega) (by omega)
  replace a1 := a1.out q15 (by omega) (by omega)
  replace hT := hT.out q15 (by omega) (by omega)
  replace p3_1 := p3_1.out q15 (by omega)
  replace p3_2 := p3_2.out q15 (by omega)
  replace k4 := k4.out q15 (by omega)
  replace k7 := k7.out q15 (by omega)
  replace hb := hb.trans (q15.to_below (by omega) (by omega))
  have ck40 := k4.cell 0 (u := .int .i64 (chunkC zs0 zs1)) rfl
  have ck41 := k4.cell 1 (u := .slice U3_1 (chunkT zs0 zs1).length C3_1) rfl
  have ck42 := k4.cell 2 (u := .slice U3_2 (chunkR zs0 zs1).length C3_2) rfl
  have ck70 := k7.cell 0 (u := .int .i64 (chunkC zs0 zs1)) rfl
  have ck71 := k7.cell 1 (u := .slice U6_1 (chunkT zs0 zs1).length C6_1) rfl
  have ck72 := k7.cell 2 (u := .slice U6_2 (chunkR zs0 zs1).length C6_2) rfl
  go_wp2_with fail
  clear ck40 ck41 ck42 ck70 ck71 ck72
  refine (heldDecodeResult_own _ _ _ _ _ 1 _ _ m6_1.sees g1 m6_2.sees g2 (by omega) (by omega) (by omega)).mono ?_
  rintro e w16 ⟨rfl, b16⟩
  have s16 := b16.size
  replace a0 := a0.below b16 (by omega)
  replace a1 := a1.below b16 (by omega)
  replace hT := hT.on b16
  replace p3_1 := p3_1.below b16 (by omega)
  replace p3_2 := p3_2.below b16 (by omega)
  replace k4 := k4.below b16 k4.lt
  replace k7 := k7.below b16 k7.lt
  replace m6_1 := m6_1.below b16 (by omega)
  replace m6_2 := m6_2.below b16 (by omega)
  replace hb := below_on hb b16 (Nat.le_refl _)
  have ck40 := k4.cell 0 (u := .int .i64 (chunkC zs0 zs1)) rfl
  have ck41 := k4.cell 1 (u := .slice U3_1 (chunkT zs0 zs1).length C3_1) rfl
  have ck42 := k4.cell 2 (u := .slice U3_2 (chunkR zs0 zs1).length C3_2) rfl
  have ck70 := k7.cell 0 (u := .int .i64 (chunkC zs0 zs1)) rfl
  have ck71 := k7.cell 1 (u := .slice U6_1 (chunkT zs0 zs1).length C6_1) rfl
  have ck72 := k7.cell 2 (u := .slice U6_2 (chunkR zs0 zs1).length C6_2) rfl
  go_wp2_with fail
  clear ck40 ck41 ck42 ck70 ck71 ck72
  refine (toByteS_own _ _ _ _ a0 (by omega) (by omega)).mono ?_
  rintro e w17 ⟨⟨v17, rfl, o17⟩, b17⟩
  have s17 := b17.size
  replace a0 := a0.below b17 (by omega)
  replace a1 := a1.below b17 (by omega)
  replace hT := hT.on b17
  replace p3_1 := p3_1.below b17 (by omega)
  replace p3_2 := p3_2.below b17 (by omega)
  replace k4 := k4.below b17 k4.lt
  replace k7 := k7.below b17 k7.lt
  replace m6_1 := m6_1.below b17 (by omega)
  replace m6_2 := m6_2.below b17 (by omega)
  replace hb := below_on hb b17 (Nat.le_refl _)
  have ck40 := k4.cell 0 (u := .int .i64 (chunkC zs0 zs1)) rfl
  have ck41 := k4.cell 1 (u := .slice U3_1 (chunkT zs0 zs1).length C3_1) rfl
  have ck42 := k4.cell 2 (u := .slice U3_2 (chunkR zs0 zs1).length C3_2) rfl
  have ck70 := k7.cell 0 (u := .int .i64 (chunkC zs0 zs1)) rfl
  have ck71 := k7.cell 1 (u := .slice U6_1 (chunkT zs0 zs1).length C6_1) rfl
  have ck72 := k7.cell 2 (u := .slice U6_2 (chunkR zs0 zs1).length C6_2) rfl
  go_wp2_with fail
  clear ck40 ck41 ck42 ck70 ck71 ck72
  refine (toByteS_own _ _ _ _ a1 (by omega) (by omega)).mono ?_
  rintro e w18 ⟨⟨v18, rfl, o18⟩, b18⟩
  have s18 := b18.size
  replace a0 := a0.below b18 (by omega)
  replace a1 := a1.below b18 (by omega)
  replace hT := hT.on b18
  replace p3_1 := p3_1.below b18 (by omega)
  replace p3_2 := p3_2.below b18 (by omega)
  replace k4 := k4.below b18 k4.lt
  replace k7 := k7.below b18 k7.lt
  replace m6_1 := m6_1.below b18 (by omega)
  replace m6_2 := m6_2.below b18 (by omega)
  replace o17 := o17.below b18 (by omega)
  replace hb := below_on hb b18 (Nat.le_refl _)
  have ck40 := k4.cell 0 (u := .int .i64 (chunkC zs0 zs1)) rfl
  have ck41 := k4.cell 1 (u := .slice U3_1 (chunkT zs0 zs1).length C3_1) rfl
  have ck42 := k4.cell 2 (u := .slice U3_2 (chunkR zs0 zs1).length C3_2) rfl
  have ck70 := k7.cell 0 (u := .int .i64 (chunkC zs0 zs1)) rfl
  have ck71 := k7.cell 1 (u := .slice U6_1 (chunkT zs0 zs1).length C6_1) rfl
  have ck72 := k7.cell 2 (u := .slice U6_2 (chunkR zs0 zs1).length C6_2) rfl
  go_wp2_with fail
  clear ck40 ck41 ck42 ck70 ck71 ck72
  refine (decodeChunk_val _ _ _ _ _ hT _ o17.sees (by omega) l0 hw0 _ o18.sees (by omega) l1 hw1).mono ?_
  rintro e w19 ⟨⟨u19_1, u19_2, rfl, p19_1, p19_2, d19⟩, b19⟩
  obtain ⟨U19_1, C19_1, rfl⟩ := p19_1.form
  obtain ⟨U19_2, C19_2, rfl⟩ := p19_2.form
  have s19 := b19.size
  replace a0 := a0.below b19 (by omega)
  replace a1 := a1.below b19 (by omega)
  replace hT := hT.on b19
  replace p3_1 := p3_1.below b19 (by omega)
  replace p3_2 := p3_2.below b19 (by omega)
  replace k4 := k4.below b19 k4.lt
  replace k7 := k7.below b19 k7.lt
  replace m6_1 := m6_1.below b19 (by omega)
  replace m6_2 := m6_2.below b19 (by omega)
  replace o17 := o17.below b19 (by omega)
  replace o18 := o18.below b19 (by omega)
  replace hb := below_on hb b19 (Nat.le_refl _)
  have ck40 := (k4.alloc (.cells #[.int .i64 (chunkC zs0 zs1), .slice U19_1 (chunkT zs0 zs1).length C19_1, .slice U19_2 (chunkR zs0 zs1).length C19_2] 32)).cell 0 (u := .int .i64 (chunkC zs0 zs1)) rfl
  have ck41 := (k4.alloc (.cells #[.int .i64 (chunkC zs0 zs1), .slice U19_1 (chunkT zs0 zs1).length C19_1, .slice U19_2 (chunkR zs0 zs1).length C19_2] 32)).cell 1 (u := .slice U3_1 (chunkT zs0 zs1).length C3_1) rfl
  have ck42 := (k4.alloc (.cells #[.int .i64 (chunkC zs0 zs1), .slice U19_1 (chunkT zs0 zs1).length C19_1, .slice U19_2 (chunkR zs0 zs1).length C19_2] 32)).cell 2 (u := .slice U3_2 (chunkR zs0 zs1).length C3_2) rfl
  have ck70 := (k7.alloc (.cells #[.int .i64 (chunkC zs0 zs1), .slice U19_1 (chunkT zs0 zs1).length C19_1, .slice U19_2 (chunkR zs0 zs1).length C19_2] 32)).cell 0 (u := .int .i64 (chunkC zs0 zs1)) rfl
  have ck71 := (k7.alloc (.cells #[.int .i64 (chunkC zs0 zs1), .slice U19_1 (chunkT zs0 zs1).length C19_1, .slice U19_2 (chunkR zs0 zs1).length C19_2] 32)).cell 1 (u := .slice U6_1 (chunkT zs0 zs1).length C6_1) rfl
  have ck72 := (k7.alloc (.cells #[.int .i64 (chunkC zs0 zs1), .slice U19_1 (chunkT zs0 zs1).length C19_1, .slice U19_2 (chunkR zs0 zs1).length C19_2] 32)).cell 2 (u := .slice U6_2 (chunkR zs0 zs1).length C6_2) rfl
  go_wp2_with fail
  clear ck40 ck41 ck42 ck70 ck71 ck72
  refine (eqDecodeResult_same _ _ _ _ _ _ _ _ _ _ ((p19_1.alloc _).sees) ((p3_1.alloc _).sees) g1 ((p19_2.alloc _).sees) ((p3_2.alloc _).sees) g2 (by simp <;> omega) (by simp <;> omega)).mono ?_
  rintro e w20 ⟨rfl, b20⟩
  have k20 := (Blk.new w19 32 #[.int .i64 (chunkC zs0 zs1), .slice U19_1 (chunkT zs0 zs1).length C19_1, .slice U19_2 (chunkR zs0 zs1).length C19_2]).below b20 (by simp)
  have t20 := k20.lt
  replace b20 := below_alloc b20
  have s20 := b20.size
  replace a0 := a0.below b20 (by omega)
  replace a1 := a1.below b20 (by omega)
  replace hT := hT.on b20
  replace p3_1 := p3_1.below b20 (by omega)
  replace p3_2 := p3_2.below b20 (by omega)
  replace k4 := k4.below b20 k4.lt
  replace k7 := k7.below b20 k7.lt
  replace m6_1 := m6_1.below b20 (by omega)
  replace m6_2 := m6_2.below b20 (by omega)
  replace p19_1 := p19_1.below b20 (by omega)
  replace p19_2 := p19_2.below b20 (by omega)
  replace hb := below_on hb b20 (Nat.le_refl _)
  have ck40 := k4.cell 0 (u := .int .i64 (chunkC zs0 zs1)) rfl
  have ck41 := k4.cell 1 (u := .slice U3_1 (chunkT zs0 zs1).length C3_1) rfl
  have ck42 := k4.cell 2 (u := .slice U3_2 (chunkR zs0 zs1).length C3_2) rfl
  have ck70 := k7.cell 0 (u := .int .i64 (chunkC zs0 zs1)) rfl
  have ck71 := k7.cell 1 (u := .slice U6_1 (chunkT zs0 zs1).length C6_1) rfl
  have ck72 := k7.cell 2 (u := .slice U6_2 (chunkR zs0 zs1).length C6_2) rfl
  have ck200 := k20.cell 0 (u := .int .i64 (chunkC zs0 zs1)) rfl
  have ck201 := k20.cell 1 (u := .slice U19_1 (chunkT zs0 zs1).length C19_1) rfl
  have ck202 := k20.cell 2 (u := .slice U19_2 (chunkR zs0 zs1).length C19_2) rfl
  go_wp2_with fail
  clear ck40 ck41 ck42 ck70 ck71 ck72 ck200 ck201 ck202
  refine (heldDecodeResult_own _ _ _ _ _ 1 _ _ m6_1.sees g1 m6_2.sees g2 (by omega) (by omega) (by omega)).mono ?_
  rintro e w21 ⟨rfl, b21⟩
  have s21 := b21.size
  replace a0 := a0.below b21 (by omega)
  replace a1 := a1.below b21 (by omega)
  replace hT := hT.on b21
  replace p3_1 := p3_1.below b21 (by omega)
  replace p3_2 := p3_2.below b21 (by omega)
  replace k4 := k4.below b21 k4.lt
  replace k7 := k7.below b21 k7.lt
  replace m6_1 := m6_1.below b21 (by omega)
  replace m6_2 := m6_2.below b21 (by omega)
  replace p19_1 := p19_1.below b21 (by omega)
  replace p19_2 := p19_2.below b21 (by omega)
  replace k20 := k20.below b21 k20.lt
  replace hb := below_on hb b21 (Nat.le_refl _)
  go_wp2
  go_ret
  exact ⟨rfl, hb⟩

theorem own : ownKnob Tryd.prog.godebug = none := by kernel_rfl
theorem laidOut : laidOutB Tryd.prog = true := by kernel_rfl

theorem contract (H : Type) (enc : TypeId × Value → H) (W : World) (base : Nat) (args : Array Value) (ds gs : List (DataW H)) (before : List MemPlace)
    (hval0 : ∀ (j : Nat) t v, Tryd.f5.params[j]? = some t → args[j]? = some v → Value.okWide Tryd.prog W .any base t v)
    (hW : DataW.Whole enc Tryd.prog Tryd.f5.params.toList Rows.fnExactDecodeChunkSpec.vars false W args.toList ds gs before) (hL : laidMetH Tryd.prog Rows.fnExactDecodeChunkRow.laid W) :
    Calls Tryd.prog 5 args W fun e W' => ∃ v, e = .returned v ∧ Rows.fnExactDecodeChunkSpec.post enc Tryd.prog Tryd.f5 false true false false W args v W' := by
  have hval : ∀ (j : Nat) t v, Tryd.f5.params[j]? = some t → args[j]? = some v → Value.okWide Tryd.prog W .any base t v := hval0
  have hW' := hW
  obtain ⟨p, q, hA0, hV, rfl, _, _⟩ := hW
  have hA : DataW.TrodAll enc Tryd.prog W 0 (fun _ => true) true Tryd.f5.params.toList args.toList ds p := hA0
  rw [Tryd.params5] at hA hval
  obtain ⟨v0, vs0, d0, ds0, p0, q0, hargs, rfl, rfl, h0, r0⟩ := trodAll_cons hA
  obtain ⟨v1, vs1, d1, ds1, p1, q1, rfl, rfl, rfl, h1, r1⟩ := trodAll_cons r0
  obtain ⟨rfl, rfl, rfl⟩ := trodAll_nil r1
  obtain rfl : args = #[v0, v1] := by cases args; simp_all
  obtain ⟨rfl, rfl⟩ := trodVars_none hV
  clear hA0 hval0
  simp only [List.append_nil] at hW'
  obtain ⟨A0, zs0, c0, rfl, hr0, hw0⟩ := open_nums Tryd.underlying22 Tryd.underlying5 (by kernel_rfl) (hval 0 22 v0 rfl rfl) h0 (fun x hx => by simpa using hW'.lt x (by simp [hx]))
  obtain ⟨A1, zs1, c1, rfl, hr1, hw1⟩ := open_nums Tryd.underlying22 Tryd.underlying5 (by kernel_rfl) (hval 1 22 v1 rfl rfl) h1 (fun x hx => by simpa using hW'.lt x (by simp [hx]))
  refine (walk (tabs_of hL) A0 zs0 c0 A1 zs1 c1 hr0 hw0 hr1 hw1).mono fun e W' ⟨he, hb⟩ => ?_
  subst he
  exact ⟨_, rfl, law_post laidOut (by decide +kernel) rfl Tryd.underlying4 rfl rfl rfl rfl hW' hb⟩

theorem laid_met (os : Os) : laidMet Tryd.prog Rows.fnExactDecodeChunkRow.laid ((laidWorld os).forCall (fun _ _ => 0) ⟨#[], #[.slice none 0 0, .slice none 0 0], []⟩).memory :=
  laidMet_of_run' 8 (by kernel_rfl) (by kernel_rfl)
theorem reads (os : Os) {H : Type} (enc : TypeId × Value → H) : ∃ places, DataW.whole enc Tryd.prog ((laidWorld os).forCall (fun _ _ => 0) ⟨#[], #[.slice none 0 0, .slice none 0 0], []⟩).memory Tryd.f5.params.toList Rows.fnExactDecodeChunkSpec.vars false (#[.slice none 0 0, .slice none 0 0] : Array Value).toList 8 = some ([.nil, .nil], [], places) :=
  ⟨[], by kernel_rfl⟩

set_option maxRecDepth 100000 in
theorem lifted (os : Os) (started : os.Started) (H : Type) (enc : TypeId × Value → H) (F : Stop.Interp) :
    ReturnsInHanded {} Tryd.checked os 5 .any ((OpenSpec.ofChange Rows.fnExactDecodeChunkSpec).preRow enc Tryd.prog Tryd.f5 Rows.fnExactDecodeChunkRow.domain false Rows.fnExactDecodeChunkRow.laid) (((OpenSpec.ofChange Rows.fnExactDecodeChunkSpec).at F).post enc Tryd.prog Tryd.f5 false true false false) := by
  obtain ⟨places, hx⟩ := reads os enc
  refine returnsInHanded_of_row (C := Tryd.checked) (s := OpenSpec.ofChange Rows.fnExactDecodeChunkSpec) own started (by kernel_rfl) Tryd.func5
    (witness_row_at (enc := enc) (C := Tryd.checked) false (laidWorld os) #[.slice none 0 0, .slice none 0 0] rfl (by kernel_rfl) (by kernel_rfl) (by kernel_rfl)
      (OpenSpec.preRow_of_cond 8 hx (by kernel_rfl) (fun k hk => by cases hk) (by kernel_rfl) (laid_met os))) ?_
  intro W base args ds gs before hval hW _ _ _ hL _ _
  exact contract H enc W base args ds gs before hval hW hL

theorem said : Rows.FnExactDecodeChunkSaid :=
  OpenClaim.holds_of_cond 5 Tryd.f5 rfl rfl rfl rfl rfl rfl rfl ⟨rfl, rfl, rfl, rfl, rfl⟩ rfl rfl rfl rfl rfl (by kernel_rfl) Tryd.func5 (by kernel_rfl)
    (of_decide_eq_true (by kernel_rfl)) (by unfold Func.isWrapper; first | (rw [if_pos (by decide +kernel)]; kernel_rfl) | (rw [if_neg (by decide +kernel)]; exact ⟨rfl, rfl⟩))
    (fun os started H enc _ F => by rw [OpenClaim.pre_eq_preRow]; exact lifted os started H enc F)

theorem plain (f : FuncId) (fn : Func) (hf : Tryd.pinned.checked.prog.funcNamed "loop.example/g00739/laws.FnExactDecodeChunk" = some f) (hfn : Tryd.pinned.checked.prog.funcs[f]? = some fn) :
    false = Tryd.pinned.checked.prog.looks [] ∧ ∀ (j : Nat) t, fn.params[j]? = some t → Tryd.pinned.checked.prog.wantsStandIn t = false := by
  obtain rfl : f = 5 := Option.some.inj ((show Tryd.prog.funcNamed "loop.example/g00739/laws.FnExactDecodeChunk" = some 5 by kernel_rfl).symm.trans hf) |>.symm
  obtain rfl : fn = Tryd.f5 := (Option.some.inj (Tryd.func5.symm.trans hfn)).symm
  refine ⟨by kernel_rfl, fun j t ht => ?_⟩
  rw [Tryd.params5] at ht
  have hm := Array.mem_of_getElem? ht
  have all : ∀ t ∈ Tryd.f5.params, Tryd.prog.wantsStandIn t = false := by decide +kernel
  exact all t (by rw [Tryd.params5]; exact hm)

theorem card : Rows.FnExactDecodeChunkCardSaid :=
  Claim7.holds_tied_plain_at .later [] _ _ _ _ said (fun _ h => by cases h) (by kernel_rfl) (fun _ h => by cases h) fnExactDecodeChunk_row_tie rfl ⟨rfl, rfl⟩ (by kernel_rfl) rfl plain (by kernel_rfl)
#print axioms card
end Go.Proofs.YtgpnkkobjbojnaaDoor.fnExactDecodeChunk
