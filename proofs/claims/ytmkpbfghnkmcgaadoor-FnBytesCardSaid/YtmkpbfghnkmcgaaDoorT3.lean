/- FlushCarry, of the program and of the model. -/
import Derived.Test.YtmkpbfghnkmcgaaDoorT2
namespace Go.Proofs.YtmkpbfghnkmcgaaDoor
open Go.RowKit

/-- nothing, said so that no step writes its length out -/
def noneOf (_ : List Int) : List Int := []
def flushT (bs : List Int) : List Int := if carryF bs = 0 ∧ 0 < bs.length then [65533] else []

theorem carryF_01 (bs : List Int) : carryF bs = 0 ∨ carryF bs = 1 := by unfold carryF; split <;> simp

set_option maxRecDepth 100000 in
set_option maxHeartbeats 1000000 in
theorem flushCarry_val (v : Value) (zs : List Int) (w : World) (hT : Tabs w) (B : Nat) (h : Sees w B .u8 v zs) (hB : B ≤ w.heap.size) (l : zs.length < 1000000000) (hw : ∀ n ∈ zs, (Lit.int .u8 n).wf = true) :
    Calls Tryd.prog 12 #[v] w fun e w' => (∃ u1 u2, e = .returned (.agg #[.int .i64 (carryF zs), u1, u2]) ∧ Own w' w.heap.size w'.heap.size 2 .i64 u1 (flushT zs) ∧ Own w' w.heap.size w'.heap.size 5 .u8 u2 (noneOf zs) ∧ (u1.ownBlock = none ∨ u1.ownBlock ≠ u2.ownBlock)) ∧ Below w.heap.size w w' := by
  have HT := Lib.hid hT
  have HS := Lib.hid h
  have HW := Lib.hid hw
  obtain ⟨A, c, rfl, _⟩ := h
  clear hT hw
  have b0 := (Below.refl w.heap.size w).alloc (Nat.le_refl _) (.cells #[.int .i64 0, .slice none 0 0, .slice none 0 0] 32)
  have k0 := Blk.new w 32 #[.int .i64 0, .slice none 0 0, .slice none 0 0]
  obtain ⟨C, hC⟩ : ∃ C, Hid (C = carryF zs) := ⟨_, Lib.hid rfl⟩
  rcases carryF_01 zs with hc | hc
  · have hC0 : Hid (C = 0) := Lib.hid (hC.out.trans hc)
    have HC := Lib.hid hc
    clear hc
    by_cases hz : zs.length = 0
    · have ET : Hid (flushT zs = []) := Lib.hid (by unfold flushT; rw [if_neg (by omega)])
      have i0 : ((zs.length : Int) == 0) = true := by simp [hz]
      have HZ := Lib.hid hz
      clear hz
      go_enter Tryd.func12, Tryd.ntmps12
      go_wp2_with fail
      refine (carryFault_val _ zs _ (HT.out.alloc _) B (HS.out.alloc hB _) (by simp; omega) l HW.out).mono ?_
      rintro e w1 ⟨rfl, b1⟩
      rw [HC.out]
      have k1 := k0.below b1 k0.lt
      have hd0 := k1.cell 0 (u := .int .i64 0) rfl
      have hd1 := k1.cell 1 (u := .slice none 0 0) rfl
      have hd2 := k1.cell 2 (u := .slice none 0 0) rfl
      have hf0 := k1.frozen 0
      have hf1 := k1.frozen 1
      have hf2 := k1.frozen 2
      have b2 := below_on b0 b1 (Nat.le_refl _)
      go_wp2
      refine bodyPost_ret (v := .agg #[.int .i64 0, .slice none 0 0, .slice none 0 0]) (by simp [results, Tryd.results12, go_sem, hd0, hd1, hd2]) rfl ?_
      rw [HC.out, ET.out]
      exact ⟨⟨_, _, rfl, Own.nil _ _ _ _ _, Own.nil _ _ _ _ _, .inl rfl⟩, ((b2.setCell (by simp) _).setCell (by simp) _).setCell (by simp) _⟩
    · have ET : Hid (flushT zs = [65533]) := Lib.hid (by unfold flushT; rw [if_pos ⟨HC.out, by omega⟩])
      have i0 : ((zs.length : Int) == 0) = false := beq_eq_false_iff_ne.2 (by omega)
      have HZ := Lib.hid hz
      clear hz
      go_enter Tryd.func12, Tryd.ntmps12
      go_wp2_with fail
      refine (carryFault_val _ zs _ (HT.out.alloc _) B (HS.out.alloc hB _) (by simp; omega) l HW.out).mono ?_
      rintro e w1 ⟨rfl, b1⟩
      rw [HC.out]
      have k1 := k0.below b1 k0.lt
      have hd0 := k1.cell 0 (u := .int .i64 0) rfl
      have hd1 := k1.cell 1 (u := .slice none 0 0) rfl
      have hd2 := k1.cell 2 (u := .slice none 0 0) rfl
      have hf0 := k1.frozen 0
      have hf1 := k1.frozen 1
      have hf2 := k1.frozen 2
      have b2 := below_on b0 b1 (Nat.le_refl _)
      have sz := b2.size
      have hlt := k1.lt
      go_wp2
      have k2 := (((k1.set 0 (.int .i64 0)).set 1 (.slice (some ⟨w1.heap.size, 0, none⟩) 1 1)).set 2 (.slice none 0 0)).alloc (.cells #[.int .i64 65533] 2)
      have o2 := Own.mk_ (kd := .i64) (zs := [65533]) (World.ownsRow_lit (e := 2) (size := 1) (((w1.setCell ⟨w.heap.size, 0, none⟩ (.int .i64 0)).setCell ⟨w.heap.size, 1, none⟩ (.slice (some ⟨w1.heap.size, 0, none⟩) 1 1)).setCell ⟨w.heap.size, 2, none⟩ (.slice none 0 0)) #[.int .i64 65533] 1 (Nat.le_refl _) (by unfold maxLen; omega) rfl) rfl
      have b3 := (((b2.setCell (p := ⟨w.heap.size, 0, none⟩) (by simp) (.int .i64 0)).setCell (p := ⟨w.heap.size, 1, none⟩) (by simp) (.slice (some ⟨w1.heap.size, 0, none⟩) 1 1)).setCell (p := ⟨w.heap.size, 2, none⟩) (by simp) (.slice none 0 0)).alloc (by simp; omega) (.cells #[.int .i64 65533] 2)
      clear hd0 hd1 hd2 hf0 hf1 hf2 b1 k0 b0
      simp only [World.size_setCell] at o2
      generalize ((((w1.setCell ⟨w.heap.size, 0, none⟩ (.int .i64 0)).setCell ⟨w.heap.size, 1, none⟩ (.slice (some ⟨w1.heap.size, 0, none⟩) 1 1)).setCell ⟨w.heap.size, 2, none⟩ (.slice none 0 0)).alloc (.cells #[.int .i64 65533] 2)) = W2 at k2 o2 b3 ⊢
      have e0 := k2.cell 0 (u := .int .i64 0) rfl
      have e1 := k2.cell 1 (u := .slice (some ⟨w1.heap.size, 0, none⟩) 1 1) rfl
      have e2 := k2.cell 2 (u := .slice none 0 0) rfl
      refine bodyPost_ret (v := .agg #[.int .i64 0, .slice (some ⟨w1.heap.size, 0, none⟩) 1 1, .slice none 0 0]) (by simp [results, Tryd.results12, go_sem, e0, e1, e2]) rfl ?_
      rw [HC.out, ET.out]
      exact ⟨⟨_, _, rfl, o2.more (by omega) (Nat.le_refl _), Own.nil _ _ _ _ _, .inr (by simp [Value.ownBlock])⟩, b3⟩
  · have ET : Hid (flushT zs = []) := Lib.hid (by unfold flushT; rw [if_neg (by omega)])
    have HC := Lib.hid hc
    clear hc
    go_enter Tryd.func12, Tryd.ntmps12
    go_wp2_with fail
    refine (carryFault_val _ zs _ (HT.out.alloc _) B (HS.out.alloc hB _) (by simp; omega) l HW.out).mono ?_
    rintro e w1 ⟨rfl, b1⟩
    rw [HC.out]
    have k1 := k0.below b1 k0.lt
    have hd0 := k1.cell 0 (u := .int .i64 0) rfl
    have hd1 := k1.cell 1 (u := .slice none 0 0) rfl
    have hd2 := k1.cell 2 (u := .slice none 0 0) rfl
    have hf0 := k1.frozen 0
    have hf1 := k1.frozen 1
    have hf2 := k1.frozen 2
    have b2 := below_on b0 b1 (Nat.le_refl _)
    have sz := b2.size
    go_wp2
    refine bodyPost_ret (v := .agg #[.int .i64 1, .slice none 0 0, .slice none 0 0]) (by simp [results, Tryd.results12, go_sem, hd0, hd1, hd2]) rfl ?_
    rw [HC.out, ET.out]
    exact ⟨⟨_, _, rfl, Own.nil _ _ _ _ _, Own.nil _ _ _ _ _, .inl rfl⟩, ((b2.setCell (by simp) _).setCell (by simp) _).setCell (by simp) _⟩
set_option maxRecDepth 100000 in
set_option maxHeartbeats 1000000 in
theorem specFlushCarry_val (v : Value) (zs : List Int) (w : World) (hT : Tabs w) (B : Nat) (h : Sees w B .u8 v zs) (hB : B ≤ w.heap.size) (l : zs.length < 1000000000) (hw : ∀ n ∈ zs, (Lit.int .u8 n).wf = true) :
    Calls Tryd.prog 21 #[v] w fun e w' => (∃ u1 u2, e = .returned (.agg #[.int .i64 (carryF zs), u1, u2]) ∧ Own w' w.heap.size w'.heap.size 2 .i64 u1 (flushT zs) ∧ Own w' w.heap.size w'.heap.size 5 .u8 u2 (noneOf zs) ∧ (u1.ownBlock = none ∨ u1.ownBlock ≠ u2.ownBlock)) ∧ Below w.heap.size w w' := by
  have HT := Lib.hid hT
  have HS := Lib.hid h
  have HW := Lib.hid hw
  obtain ⟨A, c, rfl, _⟩ := h
  clear hT hw
  have b0 := (Below.refl w.heap.size w).alloc (Nat.le_refl _) (.cells #[.int .i64 0, .slice none 0 0, .slice none 0 0] 32)
  have k0 := Blk.new w 32 #[.int .i64 0, .slice none 0 0, .slice none 0 0]
  obtain ⟨C, hC⟩ : ∃ C, Hid (C = carryF zs) := ⟨_, Lib.hid rfl⟩
  rcases carryF_01 zs with hc | hc
  · have hC0 : Hid (C = 0) := Lib.hid (hC.out.trans hc)
    have HC := Lib.hid hc
    clear hc
    by_cases hz : zs.length = 0
    · have ET : Hid (flushT zs = []) := Lib.hid (by unfold flushT; rw [if_neg (by omega)])
      have i0 : ((zs.length : Int) == 0) = true := by simp [hz]
      have HZ := Lib.hid hz
      clear hz
      go_enter Tryd.func21, Tryd.ntmps21
      go_wp2_with fail
      refine (specCarryFault_val _ zs _ (HT.out.alloc _) B (HS.out.alloc hB _) (by simp; omega) l HW.out).mono ?_
      rintro e w1 ⟨rfl, b1⟩
      rw [HC.out]
      have k1 := k0.below b1 k0.lt
      have hd0 := k1.cell 0 (u := .int .i64 0) rfl
      have hd1 := k1.cell 1 (u := .slice none 0 0) rfl
      have hd2 := k1.cell 2 (u := .slice none 0 0) rfl
      have hf0 := k1.frozen 0
      have hf1 := k1.frozen 1
      have hf2 := k1.frozen 2
      have b2 := below_on b0 b1 (Nat.le_refl _)
      go_wp2
      refine bodyPost_ret (v := .agg #[.int .i64 0, .slice none 0 0, .slice none 0 0]) (by simp [results, Tryd.results21, go_sem, hd0, hd1, hd2]) rfl ?_
      rw [HC.out, ET.out]
      exact ⟨⟨_, _, rfl, Own.nil _ _ _ _ _, Own.nil _ _ _ _ _, .inl rfl⟩, ((b2.setCell (by simp) _).setCell (by simp) _).setCell (by simp) _⟩
    · have ET : Hid (flushT zs = [65533]) := Lib.hid (by unfold flushT; rw [if_pos ⟨HC.out, by omega⟩])
      have i0 : ((zs.length : Int) == 0) = false := beq_eq_false_iff_ne.2 (by omega)
      have HZ := Lib.hid hz
      clear hz
      go_enter Tryd.func21, Tryd.ntmps21
      go_wp2_with fail
      refine (specCarryFault_val _ zs _ (HT.out.alloc _) B (HS.out.alloc hB _) (by simp; omega) l HW.out).mono ?_
      rintro e w1 ⟨rfl, b1⟩
      rw [HC.out]
      have k1 := k0.below b1 k0.lt
      have hd0 := k1.cell 0 (u := .int .i64 0) rfl
      have hd1 := k1.cell 1 (u := .slice none 0 0) rfl
      have hd2 := k1.cell 2 (u := .slice none 0 0) rfl
      have hf0 := k1.frozen 0
      have hf1 := k1.frozen 1
      have hf2 := k1.frozen 2
      have b2 := below_on b0 b1 (Nat.le_refl _)
      have sz := b2.size
      have hlt := k1.lt
      go_wp2
      have k2 := (((k1.set 0 (.int .i64 0)).set 1 (.slice (some ⟨w1.heap.size, 0, none⟩) 1 1)).set 2 (.slice none 0 0)).alloc (.cells #[.int .i64 65533] 2)
      have o2 := Own.mk_ (kd := .i64) (zs := [65533]) (World.ownsRow_lit (e := 2) (size := 1) (((w1.setCell ⟨w.heap.size, 0, none⟩ (.int .i64 0)).setCell ⟨w.heap.size, 1, none⟩ (.slice (some ⟨w1.heap.size, 0, none⟩) 1 1)).setCell ⟨w.heap.size, 2, none⟩ (.slice none 0 0)) #[.int .i64 65533] 1 (Nat.le_refl _) (by unfold maxLen; omega) rfl) rfl
      have b3 := (((b2.setCell (p := ⟨w.heap.size, 0, none⟩) (by simp) (.int .i64 0)).setCell (p := ⟨w.heap.size, 1, none⟩) (by simp) (.slice (some ⟨w1.heap.size, 0, none⟩) 1 1)).setCell (p := ⟨w.heap.size, 2, none⟩) (by simp) (.slice none 0 0)).alloc (by simp; omega) (.cells #[.int .i64 65533] 2)
      clear hd0 hd1 hd2 hf0 hf1 hf2 b1 k0 b0
      simp only [World.size_setCell] at o2
      generalize ((((w1.setCell ⟨w.heap.size, 0, none⟩ (.int .i64 0)).setCell ⟨w.heap.size, 1, none⟩ (.slice (some ⟨w1.heap.size, 0, none⟩) 1 1)).setCell ⟨w.heap.size, 2, none⟩ (.slice none 0 0)).alloc (.cells #[.int .i64 65533] 2)) = W2 at k2 o2 b3 ⊢
      have e0 := k2.cell 0 (u := .int .i64 0) rfl
      have e1 := k2.cell 1 (u := .slice (some ⟨w1.heap.size, 0, none⟩) 1 1) rfl
      have e2 := k2.cell 2 (u := .slice none 0 0) rfl
      refine bodyPost_ret (v := .agg #[.int .i64 0, .slice (some ⟨w1.heap.size, 0, none⟩) 1 1, .slice none 0 0]) (by simp [results, Tryd.results21, go_sem, e0, e1, e2]) rfl ?_
      rw [HC.out, ET.out]
      exact ⟨⟨_, _, rfl, o2.more (by omega) (Nat.le_refl _), Own.nil _ _ _ _ _, .inr (by simp [Value.ownBlock])⟩, b3⟩
  · have ET : Hid (flushT zs = []) := Lib.hid (by unfold flushT; rw [if_neg (by omega)])
    have HC := Lib.hid hc
    clear hc
    go_enter Tryd.func21, Tryd.ntmps21
    go_wp2_with fail
    refine (specCarryFault_val _ zs _ (HT.out.alloc _) B (HS.out.alloc hB _) (by simp; omega) l HW.out).mono ?_
    rintro e w1 ⟨rfl, b1⟩
    rw [HC.out]
    have k1 := k0.below b1 k0.lt
    have hd0 := k1.cell 0 (u := .int .i64 0) rfl
    have hd1 := k1.cell 1 (u := .slice none 0 0) rfl
    have hd2 := k1.cell 2 (u := .slice none 0 0) rfl
    have hf0 := k1.frozen 0
    have hf1 := k1.frozen 1
    have hf2 := k1.frozen 2
    have b2 := below_on b0 b1 (Nat.le_refl _)
    have sz := b2.size
    go_wp2
    refine bodyPost_ret (v := .agg #[.int .i64 1, .slice none 0 0, .slice none 0 0]) (by simp [results, Tryd.results21, go_sem, hd0, hd1, hd2]) rfl ?_
    rw [HC.out, ET.out]
    exact ⟨⟨_, _, rfl, Own.nil _ _ _ _ _, Own.nil _ _ _ _ _, .inl rfl⟩, ((b2.setCell (by simp) _).setCell (by simp) _).setCell (by simp) _⟩
theorem noneOf_len (bs : List Int) : (noneOf bs).length ≤ 1 := by simp [noneOf]
theorem flushT_len (bs : List Int) : (flushT bs).length ≤ 1 := by unfold flushT; split <;> simp
end Go.Proofs.YtmkpbfghnkmcgaaDoor
