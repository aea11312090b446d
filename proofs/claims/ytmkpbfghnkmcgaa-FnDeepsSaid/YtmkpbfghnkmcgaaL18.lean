/- Chapter 4: the model's ExplicitOf. -/
import Derived.Test.YtmkpbfghnkmcgaaL9
import Derived.Test.YtmkpbfghnkmcgaaL17
namespace Go.Proofs.Ytmkpbfghnkmcgaa
open Go.RowKit Go.Maps

set_option maxRecDepth 100000 in
set_option maxHeartbeats 2000000 in
theorem specExplicitOf_val (v : Value) (zs : List Int) (b : Int) (w : World) (B : Nat) (h : Sees w B .i64 v zs) (hB : B ≤ w.heap.size) (l : zs.length < 1000000000) (_ : ∀ n ∈ zs, (Lit.int .i64 n).wf = true) (hcp : CapV v) (_ : (Lit.int .i64 b).wf = true) :
    Calls Try.prog 28 #[v, .int .i64 b] w fun e w' => (∃ u1 u2, e = .returned (.agg #[.int .i64 (paraF zs b), u1, u2]) ∧ Own w' w.heap.size w'.heap.size 2 .i64 u1 (explL zs b) ∧ Own w' w.heap.size w'.heap.size 2 .i64 u2 (explC zs b) ∧
      (u1.ownBlock = none ∨ u1.ownBlock ≠ u2.ownBlock)) ∧ Below w.heap.size w w' := by
  obtain ⟨A, c, rfl, hr⟩ := h
  have hc := (hcp A zs.length c rfl).1
  have HR := Lib.hid hr
  clear hr hcp
  have b0 := (Below.refl w.heap.size w).alloc (Nat.le_refl _) (.cells #[.int .i64 0, .slice none 0 0, .slice none 0 0] 43)
  have k0 := Blk.new w 43 #[.int .i64 0, .slice none 0 0, .slice none 0 0]
  have R1 := Lib.hid (HR.out.below ((Below.refl B w).alloc hB (.cells #[.int .i64 0, .slice none 0 0, .slice none 0 0] 43)) (Nat.le_refl _))
  by_cases hz : paraF zs b = 0
  · have EL := Lib.hid (show explL zs b = levN (classesN zs) b by unfold explL; rw [if_pos hz])
    have EC := Lib.hid (show explC zs b = clsN (classesN zs) b by unfold explC; rw [if_pos hz])
    have HZ := Lib.hid hz
    have PZ := paraF_zero hz
    have HBb := Lib.hid (show 0 ≤ b ∧ b ≤ 1 from ⟨PZ.2.1, PZ.2.2.1⟩)
    have hll := (textF_zero PZ.1).1
    have HA := Lib.hid (textF_zero PZ.1).2
    have lL : (explL zs b).length ≤ 600 := explL_len zs b
    have lC : (explC zs b).length ≤ 600 := explC_len zs b
    have K0 := Lib.hid k0
    have B0 := Lib.hid b0
    clear k0 b0 PZ
    go_enter Try.func28, Try.ntmps28
    go_wp2_with fail
    refine (specParaFault_any A zs c b _ B R1.out l).mono ?_
    rintro e w' ⟨rfl, rfl⟩
    rw [hz]
    clear hz
    go_wp2_with fail
    refine (l4Explicit_any A zs c b _ B R1.out (by simp; omega) hll HA.out hc HBb.out).mono ?_
    rintro e w1 ⟨⟨u1, u2, rfl, o1, o2, d⟩, b1⟩
    rw [← EL.out] at o1
    rw [← EC.out] at o2
    obtain ⟨A1, c1, rfl⟩ := o1.form
    obtain ⟨A2, c2, rfl⟩ := o2.form
    have k1 := K0.out.below b1 K0.out.lt
    have b2 := below_on B0.out b1 (Nat.le_refl _)
    have O1 := Lib.hid o1
    have O2 := Lib.hid o2
    have DD := Lib.hid d
    have hd0 := k1.cell 0 (u := .int .i64 0) rfl
    have hd1 := k1.cell 1 (u := .slice none 0 0) rfl
    have hd2 := k1.cell 2 (u := .slice none 0 0) rfl
    have hf0 := k1.frozen 0
    have hf1 := k1.frozen 1
    have hf2 := k1.frozen 2
    clear o1 o2 d b1
    go_wp2
    refine bodyPost_ret (v := .agg #[.int .i64 0, .slice A1 (explL zs b).length c1, .slice A2 (explC zs b).length c2]) (by simp [results, Try.results28, go_sem, hd0, hd1, hd2]) rfl ?_
    rw [HZ.out]
    refine ⟨⟨_, _, rfl, ?_, ?_, DD.out⟩, ((b2.setCell (by simp) _).setCell (by simp) _).setCell (by simp) _⟩
    · exact (((O1.out.set _ _ (.inl (by simp))).set _ _ (.inl (by simp))).set _ _ (.inl (by simp))).more (by simp) (by simp)
    · exact (((O2.out.set _ _ (.inl (by simp))).set _ _ (.inl (by simp))).set _ _ (.inl (by simp))).more (by simp) (by simp)
  · have EL := Lib.hid (show explL zs b = [] by unfold explL; rw [if_neg hz])
    have EC := Lib.hid (show explC zs b = [] by unfold explC; rw [if_neg hz])
    obtain ⟨q, hq⟩ : ∃ q, Hid (q = paraF zs b) := ⟨_, Lib.hid rfl⟩
    have hne : (q != 0) = true := by rw [hq.out]; simpa using hz
    have hd0 := k0.cell 0 (u := .int .i64 0) rfl
    have hd1 := k0.cell 1 (u := .slice none 0 0) rfl
    have hd2 := k0.cell 2 (u := .slice none 0 0) rfl
    have hf0 := k0.frozen 0
    have hf1 := k0.frozen 1
    have hf2 := k0.frozen 2
    clear hz
    go_enter Try.func28, Try.ntmps28
    go_wp2_with fail
    refine (specParaFault_any A zs c b _ B R1.out l).mono ?_
    rintro e w' ⟨rfl, rfl⟩
    rw [← hq.out]
    go_wp2
    refine bodyPost_ret (v := .agg #[.int .i64 q, .slice none 0 0, .slice none 0 0]) (by simp [results, Try.results28, go_sem, hd0, hd1, hd2]) rfl ?_
    rw [EL.out, EC.out, ← hq.out]
    exact ⟨⟨_, _, rfl, Own.nil _ _ _ _ _, Own.nil _ _ _ _ _, .inl rfl⟩, (Below.refl _ _).alloc (Nat.le_refl _) _⟩
end Go.Proofs.Ytmkpbfghnkmcgaa
