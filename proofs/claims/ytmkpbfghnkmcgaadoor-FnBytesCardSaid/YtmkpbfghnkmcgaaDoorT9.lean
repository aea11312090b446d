/- The program's DecodeChunk, with its faults. -/
import Derived.Test.YtmkpbfghnkmcgaaDoorT8
namespace Go.Proofs.YtmkpbfghnkmcgaaDoor
open Go.RowKit Go.Shelf
attribute [local go_sem] Oper.semAt_some

theorem chunk_lens (cs ds : List Int) : (chunkT cs ds).length ≤ 603 ∧ (chunkR cs ds).length ≤ 603 := by
  by_cases h : chunkC cs ds = 0
  · unfold chunkT chunkR
    rw [if_pos h, if_pos h]
    unfold chunkC at h
    by_cases hc : carryF cs = 0
    · have hl := carryF_len hc
      rw [if_pos hc] at h
      by_cases hd : 600 < ds.length
      · rw [if_pos hd] at h; omega
      · have := decode_len (cs ++ ds)
        simp only [List.length_append] at this
        omega
    · rw [if_neg hc] at h; omega
  · obtain ⟨h1, h2⟩ := chunkC_ne h
    rw [h1, h2]; simp

set_option maxRecDepth 100000 in
set_option maxHeartbeats 2000000 in
theorem decodeChunk_fault1 (v0 : Value) (zs0 : List Int) (v1 : Value) (zs1 : List Int) (w : World) (hT : Tabs w) (B0 : Nat) (h0 : Sees w B0 .u8 v0 zs0) (hB0 : B0 ≤ w.heap.size) (l0 : zs0.length < 1000000000) (hw0 : ∀ n ∈ zs0, (Lit.int .u8 n).wf = true) (hc : carryF zs0 = 1) :
    Calls Tryd.prog 8 #[v0, v1] w fun e w' => (∃ u1 u2, e = .returned (.agg #[.int .i64 1, u1, u2]) ∧ Own w' w.heap.size w'.heap.size 2 .i64 u1 [] ∧ Own w' w.heap.size w'.heap.size 5 .u8 u2 [] ∧ (u1.ownBlock = none ∨ u1.ownBlock ≠ u2.ownBlock)) ∧ Below w.heap.size w w' := by
  have HT := Lib.hid hT
  have HS := Lib.hid h0
  have HW := Lib.hid hw0
  have HC := Lib.hid hc
  clear hT h0 hw0 hc
  have b0 := (Below.refl w.heap.size w).alloc (Nat.le_refl _) (.cells #[.int .i64 0, .slice none 0 0, .slice none 0 0] 32)
  have k0 := Blk.new w 32 #[.int .i64 0, .slice none 0 0, .slice none 0 0]
  refine (callsIn_wide (n := 6)).1 ?_
  refine callsIn_of_wp_marks Tryd.func8 rfl trivial ?_ rfl
  simp only [Tryd.ntmps8, List.size_toArray, List.length_cons, List.length_nil, Nat.reduceAdd, Nat.reduceSub, Array.replicate_succ, Array.replicate_zero, List.push_toArray, List.append_toArray, List.nil_append, List.cons_append]
  gi_wp2_with (refine ⟨trivial, ?_⟩; gi_at_call 24; refine (callsIn_wide.2 (carryFault_val _ zs0 _ (HT.out.alloc _) B0 (HS.out.alloc hB0 _) (by simp; omega) l0 HW.out)).mono ?_; rintro e w1 ⟨rfl, b1⟩; rw [HC.out]; have k1 := k0.below b1 k0.lt; have hd0 := k1.cell 0 (u := .int .i64 0) rfl; have hd1 := k1.cell 1 (u := .slice none 0 0) rfl; have hd2 := k1.cell 2 (u := .slice none 0 0) rfl; have hf0 := k1.frozen 0; have hf1 := k1.frozen 1; have hf2 := k1.frozen 2)
  have b2 := below_on b0 b1 (Nat.le_refl _)
  refine ⟨.agg #[.int .i64 1, .slice none 0 0, .slice none 0 0], by simp [results, Tryd.results8, go_sem, hd0, hd1, hd2], ⟨_, _, rfl, Own.nil _ _ _ _ _, Own.nil _ _ _ _ _, .inl rfl⟩, ((b2.setCell (by simp) _).setCell (by simp) _).setCell (by simp) _⟩

set_option maxRecDepth 100000 in
set_option maxHeartbeats 2000000 in
theorem decodeChunk_fault2 (v0 : Value) (zs0 : List Int) (A1 : Option Addr) (c1 : Nat) (zs1 : List Int) (w : World) (hT : Tabs w) (B0 : Nat) (h0 : Sees w B0 .u8 v0 zs0) (hB0 : B0 ≤ w.heap.size) (l0 : zs0.length < 1000000000) (hw0 : ∀ n ∈ zs0, (Lit.int .u8 n).wf = true) (hc : carryF zs0 = 0) (l1 : 600 < zs1.length) (l2 : zs1.length < 1000000000) :
    Calls Tryd.prog 8 #[v0, .slice A1 zs1.length c1] w fun e w' => (∃ u1 u2, e = .returned (.agg #[.int .i64 2, u1, u2]) ∧ Own w' w.heap.size w'.heap.size 2 .i64 u1 [] ∧ Own w' w.heap.size w'.heap.size 5 .u8 u2 [] ∧ (u1.ownBlock = none ∨ u1.ownBlock ≠ u2.ownBlock)) ∧ Below w.heap.size w w' := by
  have HT := Lib.hid hT
  have HS := Lib.hid h0
  have HW := Lib.hid hw0
  have HC := Lib.hid hc
  clear hT h0 hw0 hc
  have b0 := (Below.refl w.heap.size w).alloc (Nat.le_refl _) (.cells #[.int .i64 0, .slice none 0 0, .slice none 0 0] 32)
  have k0 := Blk.new w 32 #[.int .i64 0, .slice none 0 0, .slice none 0 0]
  refine (callsIn_wide (n := 6)).1 ?_
  refine callsIn_of_wp_marks Tryd.func8 rfl trivial ?_ rfl
  simp only [Tryd.ntmps8, List.size_toArray, List.length_cons, List.length_nil, Nat.reduceAdd, Nat.reduceSub, Array.replicate_succ, Array.replicate_zero, List.push_toArray, List.append_toArray, List.nil_append, List.cons_append]
  gi_wp2_with (refine ⟨trivial, ?_⟩; gi_at_call 24; refine (callsIn_wide.2 (carryFault_val _ zs0 _ (HT.out.alloc _) B0 (HS.out.alloc hB0 _) (by simp; omega) l0 HW.out)).mono ?_; rintro e w1 ⟨rfl, b1⟩; rw [HC.out]; have k1 := k0.below b1 k0.lt; have hd0 := k1.cell 0 (u := .int .i64 0) rfl; have hd1 := k1.cell 1 (u := .slice none 0 0) rfl; have hd2 := k1.cell 2 (u := .slice none 0 0) rfl; have hf0 := k1.frozen 0; have hf1 := k1.frozen 1; have hf2 := k1.frozen 2)
  have b2 := below_on b0 b1 (Nat.le_refl _)
  refine ⟨.agg #[.int .i64 2, .slice none 0 0, .slice none 0 0], by simp [results, Tryd.results8, go_sem, hd0, hd1, hd2], ⟨_, _, rfl, Own.nil _ _ _ _ _, Own.nil _ _ _ _ _, .inl rfl⟩, ((b2.setCell (by simp) _).setCell (by simp) _).setCell (by simp) _⟩

theorem decodeChunk_val (v0 : Value) (zs0 : List Int) (v1 : Value) (zs1 : List Int) (w : World) (hT : Tabs w) (B0 : Nat) (h0 : Sees w B0 .u8 v0 zs0) (hB0 : B0 ≤ w.heap.size) (l0 : zs0.length < 1000000000) (hw0 : ∀ n ∈ zs0, (Lit.int .u8 n).wf = true)
    (B1 : Nat) (h1 : Sees w B1 .u8 v1 zs1) (hB1 : B1 ≤ w.heap.size) (l1 : zs1.length < 1000000000) (hw1 : ∀ n ∈ zs1, (Lit.int .u8 n).wf = true) :
    Calls Tryd.prog 8 #[v0, v1] w fun e w' => (∃ u1 u2, e = .returned (.agg #[.int .i64 (chunkC zs0 zs1), u1, u2]) ∧ Own w' w.heap.size w'.heap.size 2 .i64 u1 (chunkT zs0 zs1) ∧ Own w' w.heap.size w'.heap.size 5 .u8 u2 (chunkR zs0 zs1) ∧ (u1.ownBlock = none ∨ u1.ownBlock ≠ u2.ownBlock)) ∧ Below w.heap.size w w' := by
  rcases carryF_01 zs0 with hc | hc
  · obtain ⟨A1, c1, rfl, r1⟩ := h1
    by_cases hl : 600 < zs1.length
    · have e : chunkC zs0 zs1 = 2 := by unfold chunkC; rw [if_pos hc, if_pos hl]
      obtain ⟨et, er⟩ := chunkC_ne (cs := zs0) (ds := zs1) (by rw [e]; decide)
      rw [e, et, er]
      exact decodeChunk_fault2 v0 zs0 A1 c1 zs1 w hT B0 h0 hB0 l0 hw0 hc hl l1
    · have e : chunkC zs0 zs1 = 0 := by unfold chunkC; rw [if_pos hc, if_neg hl]
      have et : chunkT zs0 zs1 = (decode (zs0 ++ zs1)).1 := by unfold chunkT; rw [if_pos e]
      have er : chunkR zs0 zs1 = (decode (zs0 ++ zs1)).2 := by unfold chunkR; rw [if_pos e]
      rw [e, et, er]
      obtain ⟨A0, c0, rfl, r0⟩ := h0
      exact decodeChunk_main A0 A1 c0 c1 zs0 zs1 w hT B0 r0 hB0 (bytes_of hw0) hc B1 r1 hB1 (by omega) (bytes_of hw1)
  · have e : chunkC zs0 zs1 = 1 := by unfold chunkC; rw [if_neg (by rw [hc]; decide)]
    obtain ⟨et, er⟩ := chunkC_ne (cs := zs0) (ds := zs1) (by rw [e]; decide)
    rw [e, et, er]
    exact decodeChunk_fault1 v0 zs0 v1 zs1 w hT B0 h0 hB0 l0 hw0 hc
end Go.Proofs.YtmkpbfghnkmcgaaDoor
