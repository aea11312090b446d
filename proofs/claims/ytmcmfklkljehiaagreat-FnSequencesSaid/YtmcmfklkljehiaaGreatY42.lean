/- Chapter 4: the model's ExplicitOf. -/
import Derived.Test.YtmcmfklkljehiaaGreatY30
import Derived.Test.YtmcmfklkljehiaaGreatY31
import Derived.Test.YtmcmfklkljehiaaGreatY41
import Derived.Test.YtmcmfklkljehiaaGreatY26
namespace Go.Proofs.YtmcmfklkljehiaaGreat
open Go.RowKit Go.Maps

theorem runsV_total (zs : List Int) (b : Int) : (runsV zs b).length + total (runsV zs b) ≤ 2000 := by
  unfold runsV
  split
  · have h := (textF_zero (paraF_zero (by assumption)).1).1
    have h1 := runsN_len (levN (classesN zs) b)
    have h2 := runsN_total (levN (classesN zs) b)
    rw [levN_len, classesN_len] at h1 h2
    omega
  · simp [total]
set_option maxRecDepth 100000 in
set_option maxHeartbeats 1000000 in
theorem runsOf_val (v : Value) (zs : List Int) (b : Int) (w : World) (B : Nat) (h : Sees w B .i64 v zs) (hB : B ≤ w.heap.size) (l : zs.length < 1000000000) (hwf : ∀ n ∈ zs, (Lit.int .i64 n).wf = true) (hcp : CapV v) (hb : (Lit.int .i64 b).wf = true) :
    Calls Tryz.prog 7 #[v, .int .i64 b] w fun e w' => (∃ u, e = .returned (.agg #[.int .i64 (paraF zs b), u]) ∧ OwnSS w' w.heap.size w'.heap.size 24 2 .i64 u (runsV zs b)) ∧ Below w.heap.size w w' := by
  have HS := Lib.hid (h.below ((Below.refl B w).alloc hB (.cells #[.int .i64 0, .slice none 0 0] 33)) (Nat.le_refl _))
  have b0 := (Below.refl w.heap.size w).alloc (Nat.le_refl _) (.cells #[.int .i64 0, .slice none 0 0] 33)
  have k0 := Blk.new w 33 #[.int .i64 0, .slice none 0 0]
  have HW := Lib.hid hwf
  have HCP := Lib.hid hcp
  obtain ⟨A, c, rfl, hr⟩ := h
  have CT := Lib.hid (explicitOf_val (.slice A zs.length c) zs b _ B HS.out (by simp; omega) l HW.out HCP.out hb)
  clear hr hwf hcp hb
  go_enter Tryz.func7, Tryz.ntmps7
  go_wp2_with fail
  refine CT.out.mono ?_
  rintro e w1 ⟨⟨u1, u2, rfl, o1, o2, _⟩, b1⟩
  clear CT
  obtain ⟨A1, c1, rfl⟩ := o1.form
  obtain ⟨A2, c2, rfl⟩ := o2.form
  have K1 := Lib.hid (k0.below b1 k0.lt)
  have B1 := Lib.hid (below_on b0 b1 (Nat.le_refl _))
  have s1 := K1.out.lt
  have b2 := B1.out.alloc B1.out.size (.cells #[.int .i64 (paraF zs b), .slice A1 (explL zs b).length c1, .slice A2 (explC zs b).length c2] 42)
  have k2 := K1.out.alloc (.cells #[.int .i64 (paraF zs b), .slice A1 (explL zs b).length c1, .slice A2 (explC zs b).length c2] 42)
  have t2 := Blk.new w1 42 #[.int .i64 (paraF zs b), .slice A1 (explL zs b).length c1, .slice A2 (explC zs b).length c2]
  have O1 := Lib.hid o1
  have T2 := Lib.hid t2
  clear o1 o2 b1 b0 k0
  by_cases hz : paraF zs b = 0
  · have EL := Lib.hid (show explL zs b = levN (classesN zs) b by unfold explL; rw [if_pos hz])
    have EC := Lib.hid (show runsV zs b = runsN (levN (classesN zs) b) by unfold runsV; rw [if_pos hz])
    have HZ := Lib.hid hz
    have ll : (explL zs b).length ≤ 600 := explL_len zs b
    rw [hz] at b2 k2 T2 ⊢
    have e0 := T2.out.cell 0 (u := .int .i64 0) rfl
    have e1 := T2.out.cell 1 (u := .slice A1 (explL zs b).length c1) rfl
    have R2 := Lib.hid (Rd.of (O1.out.alloc (.cells #[.int .i64 0, .slice A1 (explL zs b).length c1, .slice A2 (explC zs b).length c2] 42)).1)
    have K2 := Lib.hid k2
    have B2 := Lib.hid b2
    clear hz b2 k2 t2
    go_wp2_with fail
    refine (runsAmong_any A1 (explL zs b) c1 _ _ R2.out (Nat.le_refl _) ll).mono ?_
    rintro e w3 ⟨⟨v3, rfl, o3⟩, b3⟩
    obtain ⟨A3, c3, rfl⟩ := o3.form
    have k3 := K2.out.below b3 K2.out.lt
    have B3 := Lib.hid (below_on B2.out b3 (Nat.le_refl _))
    have O3 := Lib.hid o3
    have hd0 := k3.cell 0 (u := .int .i64 0) rfl
    have hd1 := k3.cell 1 (u := .slice none 0 0) rfl
    have hf0 := k3.frozen 0
    have hf1 := k3.frozen 1
    clear o3 b3
    go_wp2
    refine bodyPost_ret (v := .agg #[.int .i64 0, .slice A3 (runsN (explL zs b)).length c3]) (by simp [results, Tryz.results7, go_sem, hd0, hd1]) rfl ?_
    rw [EC.out, HZ.out, ← EL.out]
    exact ⟨⟨_, rfl, ((O3.out.set _ _ (.inl (by simp; omega))).set _ _ (.inl (by simp; omega))).more (by simp; omega) (by simp)⟩, (B3.out.setCell (by simp) _).setCell (by simp) _⟩
  · have EC := Lib.hid (show runsV zs b = [] by unfold runsV; rw [if_neg hz])
    obtain ⟨q, hq⟩ : ∃ q, Hid (q = paraF zs b) := ⟨_, Lib.hid rfl⟩
    have hne : (q != 0) = true := by rw [hq.out]; simpa using hz
    rw [← hq.out] at b2 k2 T2 ⊢
    have e0 := T2.out.cell 0 (u := .int .i64 q) rfl
    have hd0 := K1.out.cell 0 (u := .int .i64 0) rfl
    have hd1 := K1.out.cell 1 (u := .slice none 0 0) rfl
    have hf0 := K1.out.frozen 0
    have hf1 := K1.out.frozen 1
    have B2 := Lib.hid b2
    clear hz b2 k2 t2
    have KS := Lib.hid (((K1.out.set 0 (.int .i64 q)).set 1 (.slice none 0 0)).alloc (.cells #[.int .i64 q, .slice A1 (explL zs b).length c1, .slice A2 (explC zs b).length c2] 42))
    go_wp2
    have hd2 := KS.out.cell 0 (u := .int .i64 q) rfl
    have hd3 := KS.out.cell 1 (u := .slice none 0 0) rfl
    refine bodyPost_ret (v := .agg #[.int .i64 q, .slice none 0 0]) (by simp [results, Tryz.results7, go_sem, hd2, hd3]) rfl ?_
    rw [EC.out, ← hq.out]
    exact ⟨⟨_, rfl, OwnSS.nil _ _ _ _ _ _⟩, ((B1.out.setCell (by simp) _).setCell (by simp) _).alloc (by simp; omega) _⟩
set_option maxRecDepth 100000 in
set_option maxHeartbeats 1000000 in
theorem specRunsOf_val (v : Value) (zs : List Int) (b : Int) (w : World) (B : Nat) (h : Sees w B .i64 v zs) (hB : B ≤ w.heap.size) (l : zs.length < 1000000000) (_ : ∀ n ∈ zs, (Lit.int .i64 n).wf = true) (hcp : CapV v) (_ : (Lit.int .i64 b).wf = true) :
    Calls Tryz.prog 13 #[v, .int .i64 b] w fun e w' => (∃ u, e = .returned (.agg #[.int .i64 (paraF zs b), u]) ∧ OwnSS w' w.heap.size w'.heap.size 24 2 .i64 u (runsV zs b)) ∧ Below w.heap.size w w' := by
  obtain ⟨A, c, rfl, hr⟩ := h
  have hc := (hcp A zs.length c rfl).1
  have HR := Lib.hid hr
  clear hr hcp
  have b0 := (Below.refl w.heap.size w).alloc (Nat.le_refl _) (.cells #[.int .i64 0, .slice none 0 0] 33)
  have k0 := Blk.new w 33 #[.int .i64 0, .slice none 0 0]
  have R1 := Lib.hid (HR.out.below ((Below.refl B w).alloc hB (.cells #[.int .i64 0, .slice none 0 0] 33)) (Nat.le_refl _))
  by_cases hz : paraF zs b = 0
  · have EC := Lib.hid (show runsV zs b = runsN (levN (classesN zs) b) by unfold runsV; rw [if_pos hz])
    have HZ := Lib.hid hz
    have PZ := paraF_zero hz
    have HBb := Lib.hid (show 0 ≤ b ∧ b ≤ 1 from ⟨PZ.2.1, PZ.2.2.1⟩)
    have hll := (textF_zero PZ.1).1
    have HA := Lib.hid (textF_zero PZ.1).2
    have lL : (levN (classesN zs) b).length ≤ 600 := by rw [levN_len, classesN_len]; exact hll
    have K0 := Lib.hid k0
    have B0 := Lib.hid b0
    clear k0 b0 PZ
    go_enter Tryz.func13, Tryz.ntmps13
    go_wp2_with fail
    refine (specParaFault_any A zs c b _ B R1.out l).mono ?_
    rintro e w' ⟨rfl, rfl⟩
    rw [hz]
    clear hz
    go_wp2_with fail
    refine (l4Explicit_any A zs c b _ B R1.out (by simp; omega) hll HA.out hc HBb.out).mono ?_
    rintro e w1 ⟨⟨u1, u2, rfl, o1, o2, _⟩, b1⟩
    obtain ⟨A1, c1, rfl⟩ := o1.form
    obtain ⟨A2, c2, rfl⟩ := o2.form
    have K1 := Lib.hid (K0.out.below b1 K0.out.lt)
    have B1 := Lib.hid (below_on B0.out b1 (Nat.le_refl _))
    have s1 := K1.out.lt
    have R2 := Lib.hid (Rd.of o1.1)
    clear o1 o2 b1
    go_wp2_with fail
    refine (l5Runs_any A1 (levN (classesN zs) b) c1 _ _ R2.out (Nat.le_refl _) lL).mono ?_
    rintro e w3 ⟨⟨v3, rfl, o3⟩, b3⟩
    obtain ⟨A3, c3, rfl⟩ := o3.form
    have k3 := K1.out.below b3 K1.out.lt
    have B3 := Lib.hid (below_on B1.out b3 (Nat.le_refl _))
    have O3 := Lib.hid o3
    have hd0 := k3.cell 0 (u := .int .i64 0) rfl
    have hd1 := k3.cell 1 (u := .slice none 0 0) rfl
    have hf0 := k3.frozen 0
    have hf1 := k3.frozen 1
    clear o3 b3
    go_wp2
    refine bodyPost_ret (v := .agg #[.int .i64 0, .slice A3 (runsN (levN (classesN zs) b)).length c3]) (by simp [results, Tryz.results13, go_sem, hd0, hd1]) rfl ?_
    rw [EC.out, HZ.out]
    exact ⟨⟨_, rfl, ((O3.out.set _ _ (.inl (by simp; omega))).set _ _ (.inl (by simp; omega))).more (by omega) (by simp)⟩, (B3.out.setCell (by simp) _).setCell (by simp) _⟩
  · have EC := Lib.hid (show runsV zs b = [] by unfold runsV; rw [if_neg hz])
    obtain ⟨q, hq⟩ : ∃ q, Hid (q = paraF zs b) := ⟨_, Lib.hid rfl⟩
    have hne : (q != 0) = true := by rw [hq.out]; simpa using hz
    have hd0 := k0.cell 0 (u := .int .i64 0) rfl
    have hd1 := k0.cell 1 (u := .slice none 0 0) rfl
    have hf0 := k0.frozen 0
    have hf1 := k0.frozen 1
    clear hz
    go_enter Tryz.func13, Tryz.ntmps13
    go_wp2_with fail
    refine (specParaFault_any A zs c b _ B R1.out l).mono ?_
    rintro e w' ⟨rfl, rfl⟩
    rw [← hq.out]
    go_wp2
    refine bodyPost_ret (v := .agg #[.int .i64 q, .slice none 0 0]) (by simp [results, Tryz.results13, go_sem, hd0, hd1]) rfl ?_
    rw [EC.out, ← hq.out]
    exact ⟨⟨_, rfl, OwnSS.nil _ _ _ _ _ _⟩, (Below.refl _ _).alloc (Nat.le_refl _) _⟩
end Go.Proofs.YtmcmfklkljehiaaGreat

namespace Go.Proofs.YtmcmfklkljehiaaGreat
open Go.RowKit Go.Maps

set_option maxRecDepth 100000 in
set_option maxHeartbeats 2000000 in
theorem specExplicitOf_val (v : Value) (zs : List Int) (b : Int) (w : World) (B : Nat) (h : Sees w B .i64 v zs) (hB : B ≤ w.heap.size) (l : zs.length < 1000000000) (_ : ∀ n ∈ zs, (Lit.int .i64 n).wf = true) (hcp : CapV v) (_ : (Lit.int .i64 b).wf = true) :
    Calls Tryz.prog 17 #[v, .int .i64 b] w fun e w' => (∃ u1 u2, e = .returned (.agg #[.int .i64 (paraF zs b), u1, u2]) ∧ Own w' w.heap.size w'.heap.size 2 .i64 u1 (explL zs b) ∧ Own w' w.heap.size w'.heap.size 2 .i64 u2 (explC zs b) ∧
      (u1.ownBlock = none ∨ u1.ownBlock ≠ u2.ownBlock)) ∧ Below w.heap.size w w' := by
  obtain ⟨A, c, rfl, hr⟩ := h
  have hc := (hcp A zs.length c rfl).1
  have HR := Lib.hid hr
  clear hr hcp
  have b0 := (Below.refl w.heap.size w).alloc (Nat.le_refl _) (.cells #[.int .i64 0, .slice none 0 0, .slice none 0 0] 42)
  have k0 := Blk.new w 42 #[.int .i64 0, .slice none 0 0, .slice none 0 0]
  have R1 := Lib.hid (HR.out.below ((Below.refl B w).alloc hB (.cells #[.int .i64 0, .slice none 0 0, .slice none 0 0] 42)) (Nat.le_refl _))
  by_cases hz : paraF zs b = 0
  · have EL := Lib.hid (show explL zs b = levN (classesN zs) b by unfold explL; rw [if_pos hz])
    have EC := Lib.hid (show explC zs b = clsN (classesN zs) b by unfold explC; rw [if_pos hz])
    have HZ := Lib.hid hz
    have PZ := paraF_zero hz
    have HBb := Lib.hid (show 0 ≤ b ∧ b ≤ 1 from ⟨PZ.2.1, PZ.2.2.1⟩)
    have hll := (textF_zero PZ.1).1
    have HA := Lib.hid (textF_zero PZ.1).2
    have lL : (explL zs b).length ≤ 600 := explL_len zs b
    have lC : (explC zs b).length ≤ 600 := explC_len zs b
    have K0 := Lib.hid k0
    have B0 := Lib.hid b0
    clear k0 b0 PZ
    go_enter Tryz.func17, Tryz.ntmps17
    go_wp2_with fail
    refine (specParaFault_any A zs c b _ B R1.out l).mono ?_
    rintro e w' ⟨rfl, rfl⟩
    rw [hz]
    clear hz
    go_wp2_with fail
    refine (l4Explicit_any A zs c b _ B R1.out (by simp; omega) hll HA.out hc HBb.out).mono ?_
    rintro e w1 ⟨⟨u1, u2, rfl, o1, o2, d⟩, b1⟩
    rw [← EL.out] at o1
    rw [← EC.out] at o2
    obtain ⟨A1, c1, rfl⟩ := o1.form
    obtain ⟨A2, c2, rfl⟩ := o2.form
    have k1 := K0.out.below b1 K0.out.lt
    have b2 := below_on B0.out b1 (Nat.le_refl _)
    have O1 := Lib.hid o1
    have O2 := Lib.hid o2
    have DD := Lib.hid d
    have hd0 := k1.cell 0 (u := .int .i64 0) rfl
    have hd1 := k1.cell 1 (u := .slice none 0 0) rfl
    have hd2 := k1.cell 2 (u := .slice none 0 0) rfl
    have hf0 := k1.frozen 0
    have hf1 := k1.frozen 1
    have hf2 := k1.frozen 2
    clear o1 o2 d b1
    go_wp2
    refine bodyPost_ret (v := .agg #[.int .i64 0, .slice A1 (explL zs b).length c1, .slice A2 (explC zs b).length c2]) (by simp [results, Tryz.results17, go_sem, hd0, hd1, hd2]) rfl ?_
    rw [HZ.out]
    refine ⟨⟨_, _, rfl, ?_, ?_, DD.out⟩, ((b2.setCell (by simp) _).setCell (by simp) _).setCell (by simp) _⟩
    · exact (((O1.out.set _ _ (.inl (by simp))).set _ _ (.inl (by simp))).set _ _ (.inl (by simp))).more (by simp) (by simp)
    · exact (((O2.out.set _ _ (.inl (by simp))).set _ _ (.inl (by simp))).set _ _ (.inl (by simp))).more (by simp) (by simp)
  · have EL := Lib.hid (show explL zs b = [] by unfold explL; rw [if_neg hz])
    have EC := Lib.hid (show explC zs b = [] by unfold explC; rw [if_neg hz])
    obtain ⟨q, hq⟩ : ∃ q, Hid (q = paraF zs b) := ⟨_, Lib.hid rfl⟩
    have hne : (q != 0) = true := by rw [hq.out]; simpa using hz
    have hd0 := k0.cell 0 (u := .int .i64 0) rfl
    have hd1 := k0.cell 1 (u := .slice none 0 0) rfl
    have hd2 := k0.cell 2 (u := .slice none 0 0) rfl
    have hf0 := k0.frozen 0
    have hf1 := k0.frozen 1
    have hf2 := k0.frozen 2
    clear hz
    go_enter Tryz.func17, Tryz.ntmps17
    go_wp2_with fail
    refine (specParaFault_any A zs c b _ B R1.out l).mono ?_
    rintro e w' ⟨rfl, rfl⟩
    rw [← hq.out]
    go_wp2
    refine bodyPost_ret (v := .agg #[.int .i64 q, .slice none 0 0, .slice none 0 0]) (by simp [results, Tryz.results17, go_sem, hd0, hd1, hd2]) rfl ?_
    rw [EL.out, EC.out, ← hq.out]
    exact ⟨⟨_, _, rfl, Own.nil _ _ _ _ _, Own.nil _ _ _ _ _, .inl rfl⟩, (Below.refl _ _).alloc (Nat.le_refl _) _⟩
end Go.Proofs.YtmcmfklkljehiaaGreat
