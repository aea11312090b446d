/- Chapter 3: SplitText, the model's and the program's. -/
import Derived.Test.YtmkpbfghnkmcgaaG5
namespace Go.Proofs.Ytmkpbfghnkmcgaa
open Go.RowKit Go.Maps

set_option maxRecDepth 100000 in
set_option maxHeartbeats 1000000 in
theorem specSplitText_val (v : Value) (zs : List Int) (w : World) (B : Nat) (h : Sees w B .i64 v zs) (hB : B ≤ w.heap.size) (l : zs.length < 1000000000) (_ : ∀ n ∈ zs, (Lit.int .i64 n).wf = true) :
    Calls Try.prog 17 #[v] w fun e w' => (∃ u, e = .returned (.agg #[.int .i64 (textF zs), u, .bool (endedV zs)]) ∧ OwnSS w' w.heap.size w'.heap.size 24 2 .i64 u (parasV zs)) ∧ Below w.heap.size w w' := by
  obtain ⟨A, c, rfl, hr⟩ := h
  have HR := Lib.hid hr
  clear hr
  have b0 := (Below.refl w.heap.size w).alloc (Nat.le_refl _) (.cells #[.int .i64 0, .slice none 0 0, .bool false] 28)
  have k0 := Blk.new w 28 #[.int .i64 0, .slice none 0 0, .bool false]
  by_cases hz : textF zs = 0
  · have EL := Lib.hid (show parasV zs = parasN classN zs by unfold parasV; rw [if_pos hz])
    have EE := Lib.hid (show endedV zs = endedN classN zs by unfold endedV; rw [if_pos hz])
    have HZ := Lib.hid (textF_zero hz)
    have hll := HZ.out.1
    go_enter Try.func17, Try.ntmps17
    go_wp2_with fail
    refine (specTextFault_any A zs c _ B (HR.out.below ((Below.refl B w).alloc hB _) (Nat.le_refl _)) l).mono ?_
    rintro e w' ⟨rfl, rfl⟩
    rw [hz]
    go_wp2_with fail
    refine (l3Split_any A zs c _ ((HR.out.below ((Below.refl B w).alloc hB _) (Nat.le_refl _)).more (by simp; omega)) hll HZ.out.2).mono ?_
    rintro e w1 ⟨⟨v1, rfl, o1⟩, b1⟩
    obtain ⟨A1, c1, rfl⟩ := o1.form
    have k1 := k0.below b1 k0.lt
    have b2 := below_on b0 b1 (Nat.le_refl _)
    have hd0 := k1.cell 0 (u := .int .i64 0) rfl
    have hd1 := k1.cell 1 (u := .slice none 0 0) rfl
    have hd2 := k1.cell 2 (u := .bool false) rfl
    have hf0 := k1.frozen 0
    have hf1 := k1.frozen 1
    have hf2 := k1.frozen 2
    have O1 := Lib.hid o1
    clear o1 b1
    go_wp2
    refine bodyPost_ret (v := .agg #[.int .i64 0, .slice A1 (parasN classN zs).length c1, .bool (endedN classN zs)]) (by simp [results, Try.results17, go_sem, hd0, hd1, hd2]) rfl ?_
    rw [EL.out, EE.out, hz]
    refine ⟨⟨_, rfl, ?_⟩, ((b2.setCell (by simp) _).setCell (by simp) _).setCell (by simp) _⟩
    have o2 := O1.out
    rw [World.size_alloc] at o2
    exact (((o2.set _ _ (.inl (by simp))).set _ _ (.inl (by simp))).set _ _ (.inl (by simp))).more (by omega) (by simp)
  · have EL := Lib.hid (show parasV zs = [] by unfold parasV; rw [if_neg hz])
    have EE := Lib.hid (show endedV zs = false by unfold endedV; rw [if_neg hz])
    obtain ⟨q, hq⟩ : ∃ q, Hid (q = textF zs) := ⟨_, Lib.hid rfl⟩
    have hne : (q != 0) = true := by rw [hq.out]; simpa using hz
    have hd0 := k0.cell 0 (u := .int .i64 0) rfl
    have hd1 := k0.cell 1 (u := .slice none 0 0) rfl
    have hd2 := k0.cell 2 (u := .bool false) rfl
    have hf0 := k0.frozen 0
    have hf1 := k0.frozen 1
    have hf2 := k0.frozen 2
    clear hz
    go_enter Try.func17, Try.ntmps17
    go_wp2_with fail
    refine (specTextFault_any A zs c _ B (HR.out.below ((Below.refl B w).alloc hB _) (Nat.le_refl _)) l).mono ?_
    rintro e w' ⟨rfl, rfl⟩
    rw [← hq.out]
    go_wp2
    refine bodyPost_ret (v := .agg #[.int .i64 q, .slice none 0 0, .bool false]) (by simp [results, Try.results17, go_sem, hd0, hd1, hd2]) rfl ?_
    rw [EL.out, EE.out, ← hq.out]
    exact ⟨⟨_, rfl, OwnSS.nil _ _ _ _ _ _⟩, (Below.refl _ _).alloc (Nat.le_refl _) _⟩

set_option maxRecDepth 100000 in
set_option maxHeartbeats 2000000 in
theorem splitText_val (v : Value) (zs : List Int) (w : World) (B : Nat) (h : Sees w B .i64 v zs) (hB : B ≤ w.heap.size) (l : zs.length < 1000000000) (_ : ∀ n ∈ zs, (Lit.int .i64 n).wf = true) :
    Calls Try.prog 13 #[v] w fun e w' => (∃ u, e = .returned (.agg #[.int .i64 (textF zs), u, .bool (endedV zs)]) ∧ OwnSS w' w.heap.size w'.heap.size 24 2 .i64 u (parasV zs)) ∧ Below w.heap.size w w' := by
  obtain ⟨i0, hi, hz0, hz1, hz2⟩ := info_parts info_int64
  obtain ⟨i1, ki, kz0, kz1, kz2⟩ := info_parts info_ints
  obtain ⟨A, c, rfl, hr⟩ := h
  have HR := Lib.hid hr
  clear hr
  have b0 := (Below.refl w.heap.size w).alloc (Nat.le_refl _) (.cells #[.int .i64 0, .slice none 0 0, .bool false] 28)
  have k0 := Blk.new w 28 #[.int .i64 0, .slice none 0 0, .bool false]
  go_enter Try.func13, Try.ntmps13
  go_wp2_with fail
  refine (textFault_any A zs c _ B (HR.out.below ((Below.refl B w).alloc hB _) (Nat.le_refl _)) (by simp; omega) l).mono ?_
  rintro e w1 ⟨rfl, b1⟩
  have k1 := k0.below b1 k0.lt
  have b2 := below_on b0 b1 (Nat.le_refl _)
  have R1 := Lib.hid ((HR.out.below ((Below.refl B w).alloc hB _) (Nat.le_refl _)).below b1 (by simp; omega))
  have s1 := k1.lt
  by_cases hz : textF zs = 0
  · have EL := Lib.hid (show parasV zs = parasN classN zs by unfold parasV; rw [if_pos hz])
    have EE := Lib.hid (show endedV zs = endedN classN zs by unfold endedV; rw [if_pos hz])
    have HZ := Lib.hid hz
    have HC := Lib.hid (textF_zero hz).2
    have hll := (textF_zero hz).1
    have K1 := Lib.hid (k1.alloc (.cells #[.int .i64 0, .slice none 0 0, .bool false] 28))
    have J1 := Lib.hid (Blk.new w1 28 #[.int .i64 0, .slice none 0 0, .bool false])
    have B2 := Lib.hid (b2.alloc b2.size (.cells #[.int .i64 0, .slice none 0 0, .bool false] 28))
    have R2 := Lib.hid (R1.out.below ((Below.refl B w1).alloc (by omega) (.cells #[.int .i64 0, .slice none 0 0, .bool false] 28)) (Nat.le_refl _))
    rw [hz]
    clear hz b0 k0 b1 k1 b2 R1
    go_wp2_with fail
    refine (classRules_any _).mono ?_
    rintro e w2 ⟨⟨rfl, es, clock, hm⟩, b3⟩
    have K2 := Lib.hid (K1.out.below b3 K1.out.lt)
    have J2 := Lib.hid (J1.out.below b3 J1.out.lt)
    have B3 := Lib.hid (below_on B2.out b3 (Nat.le_refl _))
    have R3 := Lib.hid (R2.out.below b3 (by simp; omega))
    have s2 : w1.heap.size + 1 ≤ w2.heap.size := by have := b3.size; simpa using this
    have s2' := hm.lt
    have HM := Lib.hid hm
    rw [World.size_alloc] at HM s2' ⊢
    clear b3 hm K1 J1 B2 R2
    go_wp2_with fail
    refine (stringOf_any A zs c w2 B R3.out (by omega) HZ.out).mono ?_
    rintro e w3 ⟨rfl, b4⟩
    have K3 := Lib.hid (K2.out.below b4 K2.out.lt)
    have J3 := Lib.hid (J2.out.below b4 J2.out.lt)
    have B4 := Lib.hid (below_on B3.out b4 (Nat.le_refl _))
    have M3 := Lib.hid (HM.out.below b4 HM.out.lt)
    have s3 := b4.size
    have K4 := Lib.hid (K3.out.alloc (.stringIter (bstr (encs zs)) 0))
    have J4 := Lib.hid (J3.out.alloc (.stringIter (bstr (encs zs)) 0))
    have B5 := Lib.hid (B4.out.alloc B4.out.size (.stringIter (bstr (encs zs)) 0))
    have M4 := Lib.hid (show Mp (w3.alloc (.stringIter (bstr (encs zs)) 0)) _ _ _ _ _ from M3.out.below ((Below.refl _ _).alloc (Nat.le_refl _) _) M3.out.lt)
    have HI := Lib.hid (show (w3.alloc (.stringIter (bstr (encs zs)) 0)).heap[w3.heap.size]? = some (.stringIter (bstr (encs zs)) (encAt zs 0)) by rw [encAt_zero]; exact heap_alloc_new w3 _)
    clear b4 K2 J2 B3 HM K3 J3 B4 M3
    go_wp2
    generalize hX : World.iter w3 (bstr (encs zs)) 0 = X at *
    have eX : X = w3.alloc (.stringIter (bstr (encs zs)) 0) := by rw [← hX]; rfl
    rw [← eX] at K4 J4 B5 M4 HI
    have szX : X.heap.size = w3.heap.size + 1 := by rw [eX]; simp
    clear eX hX
    obtain ⟨lo, hlo⟩ : ∃ lo, Hid (lo = w3.heap.size + 1) := ⟨_, Lib.hid rfl⟩
    have hlo' : lo = w3.heap.size + 1 := hlo.out
    have T0 : Hid (Two X lo lo 24 2 (.slice none 0 0) (.slice none 0 0) (prun classN (zs.take 0)).paras (prun classN (zs.take 0)).now []) := Lib.hid (Two.nil (by
      have := OwnC.nil X lo lo 24 1
      exact this))
    go_loopw [5, 7] (fun vN vA wr => ∃ (k : Nat) (us : List Value) (vO : Value), k ≤ zs.length ∧ vA = .int .i32 (prun classN (zs.take k)).ahead ∧
      Hid (Two wr lo wr.heap.size 24 2 vO vN (prun classN (zs.take k)).paras (prun classN (zs.take k)).now us) ∧
      Hid (Blk wr w.heap.size 28 #[.int .i64 0, .slice none 0 0, .bool false]) ∧ Hid (Blk wr w1.heap.size 28 #[.int .i64 0, vO, .bool false]) ∧
      Hid (wr.heap[w3.heap.size]? = some (.stringIter (bstr (encs zs)) (encAt zs k))) ∧ Hid (Mp wr (w1.heap.size + 1) (rulesL.map rEnt) (fun j => decide (j < rulesL.length)) es clock) ∧ Hid (Below w.heap.size w wr) ∧ lo ≤ wr.heap.size)
      (fun _ _ wr => (encs zs).length - wr.iterPos w3.heap.size)
    case atStart => exact ⟨0, [], .slice none 0 0, by omega, rfl, Lib.hid (T0.out.more (Nat.le_refl _) (by omega)), K4, J4, HI, M4, B5, by omega⟩
    case round =>
      clear K4 J4 HI M4 B5 T0
      obtain ⟨k, us, vO, hk, rfl, ht, hkb, hjb, hit, hm, hbr, hls⟩ := hrel
      have hbs := hbr.out.size
      have hkl := hkb.out.lt
      have hne1 : ¬ w1.heap.size = w.heap.size := by omega
      have hne2 : ¬ w.heap.size = w1.heap.size := by omega
      obtain ⟨AO, cO, rfl⟩ := own_form ht.out.rows.row
      obtain ⟨AN, cN, rfl⟩ := ht.out.one.form
      have PT := Lib.hid (prun_total classN (zs.take k))
      have ptl : (zs.take k).length ≤ 600 := by rw [List.length_take]; omega
      have pt1 : (prun classN (zs.take k)).paras.length ≤ 600 := by have := PT.out; omega
      have pt2 : (prun classN (zs.take k)).now.length ≤ 600 := by have := PT.out; omega
      clear PT ptl
      have LO := Lib.hid (fun b (hb : Value.ownBlock _ = some b) => (ht.out.rows.vlt b hb).1)
      have LN := Lib.hid (fun b hb => (ht.out.one.lt b hb).1)
      go_wp2_with (at_next; refine wpList_next_text rfl _ rfl w3.heap.size zs HC.out k rfl hit.out ?_ ?_)
      · intro hge
        have e : zs.take k = zs := List.take_of_length_le hge
        rw [e] at ht hjb pt1 pt2 LO LN ⊢
        clear e hge hit hm
        have hd0 := hkb.out.cell 0 (u := .int .i64 0) rfl
        have hd1 := hkb.out.cell 1 (u := .slice none 0 0) rfl
        have hd2 := hkb.out.cell 2 (u := .bool false) rfl
        have hf0 := hkb.out.frozen 0
        have hf1 := hkb.out.frozen 1
        have hf2 := hkb.out.frozen 2
        have hj0 := hjb.out.cell 0 (u := .int .i64 0) rfl
        have hj1 := hjb.out.cell 1 rfl
        have hj2 := hjb.out.cell 2 (u := .bool false) rfl
        have hg1 := hjb.out.frozen 1
        have hg2 := hjb.out.frozen 2
        by_cases hn : (prun classN zs).now.length = 0
        · have E1 := Lib.hid (show parasV zs = (prun classN zs).paras by rw [EL.out]; unfold parasN; rw [if_pos hn])
          have E2 := Lib.hid (show endedV zs = true by rw [EE.out]; unfold endedN; simpa using hn)
          have HT := Lib.hid ht.out.out
          obtain ⟨P, hP⟩ : ∃ P, Hid (P = prun classN zs) := ⟨_, Lib.hid rfl⟩
          rw [← hP.out] at hj1 E1 HT hn LO ⊢
          have h0 : ((P.now.length : Nat) : Int) == 0 := by simp [hn]
          have HN := Lib.hid hn
          clear hn ht hjb hkb
          go_wp2
          refine bodyPost_ret (v := .agg #[.int .i64 0, .slice AO P.paras.length cO, .bool true]) (by simp [results, Try.results13, go_sem, hd0, hd1, hd2, hne1, hne2]) rfl ?_
          rw [E1.out, E2.out, HZ.out]
          refine ⟨⟨_, rfl, ?_⟩, (((hbr.out.setCell (by simp; omega) _).setCell (by simp) _).setCell (by simp) _).setCell (by simp) _⟩
          exact ((((HT.out.set _ _ (.inl (by simp; omega))).set _ _ (.inl (by simp; omega))).set _ _ (.inl (by simp; omega))).set _ _ (.inl (by simp; omega))).more (by omega) (by simp)
        · have E1 := Lib.hid (show parasV zs = (prun classN zs).paras ++ [(prun classN zs).now] by rw [EL.out]; unfold parasN; rw [if_neg hn])
          have E2 := Lib.hid (show endedV zs = false by rw [EE.out]; unfold endedN; simpa using hn)
          obtain ⟨P, hP⟩ : ∃ P, Hid (P = prun classN zs) := ⟨_, Lib.hid rfl⟩
          rw [← hP.out] at ht hj1 E1 pt1 pt2 hn LO LN ⊢
          have h0 : (((P.now.length : Nat) : Int) == 0) = false := by simpa using hn
          have T1 := Lib.hid ((ht.out.set ⟨w1.heap.size, 2, none⟩ (.bool false) (.inl (by simp; omega))).alloc (.cells #[.slice AN P.now.length cN] 24))
          have B1 := Lib.hid ((hbr.out.setCell (p := ⟨w1.heap.size, 2, none⟩) (by simp; omega) (.bool false)).alloc (by simp; omega) (.cells #[.slice AN P.now.length cN] 24))
          have K5 := Lib.hid (show Blk ((wr.setCell ⟨w1.heap.size, 2, none⟩ (.bool false)).alloc (.cells #[.slice AN P.now.length cN] 24)) w.heap.size 28 #[.int .i64 0, .slice none 0 0, .bool false] from Blk.alloc ((heap_setCell_other wr ⟨w1.heap.size, 2, none⟩ _ _ (by simp; omega)).trans hkb.out) _)
          have J5 := Lib.hid (show Blk ((wr.setCell ⟨w1.heap.size, 2, none⟩ (.bool false)).alloc (.cells #[.slice AN P.now.length cN] 24)) w1.heap.size 28 #[.int .i64 0, .slice AO P.paras.length cO, .bool false] from Blk.alloc (by
            have := hjb.out.set 2 (.bool false)
            rw [← hP.out] at this
            exact this) _)
          have HOR := Lib.hid T1.out.rows.row
          have HRD : Hid (Rd ((wr.setCell ⟨w1.heap.size, 2, none⟩ (.bool false)).alloc (.cells #[.slice AN P.now.length cN] 24)) (wr.heap.size + 1) (some ⟨wr.heap.size, 0, none⟩) [.slice AN P.now.length cN]) := Lib.hid (by
            have := Rd.lit (wr.setCell ⟨w1.heap.size, 2, none⟩ (.bool false)) #[.slice AN P.now.length cN] 24
            simpa using this)
          clear hn ht hjb hkb
          go_wp2_with (at_builtin; go_loud (refine wpList_app rfl _ _ _ rfl lo Try.underlying26 ki kz0 kz1 kz2 rfl (by omega) rfl HOR.out rfl HRD.out (m := 1) rfl (slice_one _ _ _) (by omega) (by omega) (by simp; omega) ?_); intro v' w5 o5 g5 a5; obtain ⟨A5, c5, rfl⟩ := own_form o5; have O5 := Lib.hid (T1.out.push (by simp) o5 g5 a5); have low := fun i (hi : i < lo) => g5.block i (by simp; omega) (fun e => by have := LO.out _ e.symm; omega); have K6 : Blk w5 w.heap.size 28 #[.int .i64 0, .slice none 0 0, .bool false] := (low _ (by omega)).trans K5.out; have J6 : Blk w5 w1.heap.size 28 #[.int .i64 0, .slice AO P.paras.length cO, .bool false] := (low _ (by omega)).trans J5.out; have B6 := Lib.hid (B1.out.grown g5 B1.out.size (fun b hb => by have := LO.out b hb; omega)); have hd0 := K6.cell 0 (u := .int .i64 0) rfl; have hd1 := K6.cell 1 (u := .slice none 0 0) rfl; have hd2 := K6.cell 2 (u := .bool false) rfl; have hf0 := K6.frozen 0; have hf1 := K6.frozen 1; have hf2 := K6.frozen 2; have hj0 := J6.cell 0 (u := .int .i64 0) rfl; have hj1 := J6.cell 1 rfl; have hj2 := J6.cell 2 (u := .bool false) rfl; have hg1 := J6.frozen 1; have s5 : lo ≤ w5.heap.size := (by have := g5.size; simp at this; omega); clear o5 g5 a5 low K6 J6)
          refine bodyPost_ret (v := .agg #[.int .i64 0, .slice A5 (P.paras.length + 1) c5, .bool false]) (by simp [results, Try.results13, go_sem, hd0, hd1, hd2, hne1, hne2]) rfl ?_
          rw [E1.out, E2.out, HZ.out]
          refine ⟨⟨_, rfl, ?_⟩, (((B6.out.setCell (by simp; omega) _).setCell (by simp) _).setCell (by simp) _).setCell (by simp) _⟩
          have o7 : OwnSS w5 lo w5.heap.size 24 2 .i64 (.slice A5 (P.paras.length + 1) c5) (P.paras ++ [P.now]) := ⟨_, O5.out⟩
          exact ((((o7.set _ _ (.inl (by simp; omega))).set _ _ (.inl (by simp; omega))).set _ _ (.inl (by simp; omega))).set _ _ (.inl (by simp; omega))).more (by omega) (by simp)
      · intro hlt w4 hw
        have szw := hw.size
        have hgt := at_lt hit.out
        have T4 := Lib.hid (ht.out.keep (w' := w4) fun i hi h1 h2 => hw.other i (by omega))
        have K4 := Lib.hid (show Blk w4 w.heap.size 28 #[.int .i64 0, .slice none 0 0, .bool false] from (hw.other _ (by omega)).trans hkb.out)
        have J4 := Lib.hid (show Blk w4 w1.heap.size 28 #[.int .i64 0, .slice AO (prun classN (zs.take k)).paras.length cO, .bool false] from (hw.other _ (by omega)).trans hjb.out)
        have I4 := Lib.hid hw.it
        have M4 := Lib.hid (hm.out.below (hw.below (B := w3.heap.size) (Nat.le_refl _)) (by omega))
        have B4 := Lib.hid (hbr.out.trans (hw.below (B := w.heap.size) (by omega)))
        have LT := Lib.hid hlt
        rw [← szw] at T4 hls
        clear hw ht hkb hjb hm hbr szw
        have hch := chr_nth zs HC.out k hlt
        have HST := Lib.hid (prun_step classN zs k hlt)
        obtain ⟨z, hzz⟩ : ∃ z, Hid (z = nth zs k) := ⟨_, Lib.hid rfl⟩
        rw [← hzz.out] at HST hch ⊢
        simp only [chrB, decide_eq_true_eq] at hch
        have hzl : 0 ≤ z := by omega
        have hzh : z ≤ 1114111 := by omega
        clear hch hlt
        obtain ⟨P, hP⟩ : ∃ P, Hid (P = prun classN (zs.take k)) := ⟨_, Lib.hid rfl⟩
        rw [← hP.out] at T4 J4 HST pt1 pt2 LO LN ⊢
        have hms : (encs zs).length - encAt zs (k + 1) < (encs zs).length - encAt zs k := by
          have := encAt_lt zs k LT.out
          have := encAt_step zs k LT.out
          have := enc1_pos (nth zs k)
          omega
        have HMS := Lib.hid hms
        clear hms
        by_cases hskip : P.ahead = 13 ∧ z = 10
        · obtain ⟨hs1, hs2⟩ := hskip
          have E1 := Lib.hid (show prun classN (zs.take (k + 1)) = ⟨P.paras, P.now, z⟩ by rw [HST.out]; unfold pstep; rw [if_pos ⟨hs1, hs2⟩])
          obtain ⟨pa, hpa⟩ : ∃ pa, Hid (pa = P.ahead) := ⟨_, Lib.hid rfl⟩
          have hpe : (pa == 13) = true := by rw [hpa.out]; simp [hs1]
          have hze : (z == 10) = true := by simp [hs2]
          rw [← hpa.out]
          have T5 : Hid (Two w4 lo w4.heap.size 24 2 (.slice AO P.paras.length cO) (.slice AN P.now.length cN) (prun classN (zs.take (k + 1))).paras (prun classN (zs.take (k + 1))).now us) := Lib.hid (by rw [E1.out]; exact T4.out)
          clear hs1 hs2
          go_wp2
          go_roundw
          case rel => exact ⟨k + 1, us, _, LT.out, by rw [E1.out], T5, K4, J4, I4, M4, B4, hls⟩
          case measure =>
            rw [iter_at I4.out, iter_at hit.out]
            exact HMS.out
        · obtain ⟨q, hq⟩ : ∃ q, Hid (q = classN z) := ⟨_, Lib.hid rfl⟩
          have HCB := Lib.hid (classBy_any z _ w4 es clock M4.out)
          rw [← hq.out] at HCB
          obtain ⟨pa, hpa⟩ : ∃ pa, Hid (pa = P.ahead) := ⟨_, Lib.hid rfl⟩
          rw [← hpa.out]
          have hcond : ((pa == 13) = false) ∨ ((pa == 13) = true ∧ (z == 10) = false) := by
            rw [hpa.out]
            by_cases h : P.ahead = 13
            · right; simp [h]; intro e; exact hskip ⟨h, e⟩
            · left; simpa using h
          by_cases h10 : q = 10
          · have E1 := Lib.hid (show prun classN (zs.take (k + 1)) = ⟨P.paras ++ [P.now], [], z⟩ by rw [HST.out]; unfold pstep; rw [if_neg hskip, if_pos (by rw [← hq.out]; exact h10)])
            have hqe : (q == 10) = true := by simp [h10]
            clear hskip h10
            rcases hcond with hpe | ⟨hpe, hze⟩
            all_goals
              go_wp2_with fail
              refine HCB.out.mono ?_
              rintro e w5 ⟨rfl, b5⟩
              have s5 := b5.size
              have T5 := Lib.hid ((T4.out.below b5 (Nat.le_refl _)).alloc (.cells #[.slice AN P.now.length cN] 24))
              have K5 := Lib.hid (K4.out.below b5 K4.out.lt)
              have J5 := Lib.hid (J4.out.below b5 J4.out.lt)
              have I5 := Lib.hid (iter_below I4.out b5 (at_lt I4.out))
              have M5 := Lib.hid (M4.out.below b5 M4.out.lt)
              have B5 := Lib.hid (below_on B4.out b5 (Nat.le_refl _))
              have hj1 := J5.out.cell 1 rfl
              have HOR := Lib.hid T5.out.rows.row
              clear b5 T4 K4 J4 I4 M4 B4
              go_wp2_with (at_builtin; go_loud (refine wpList_app rfl _ _ _ rfl lo Try.underlying26 ki kz0 kz1 kz2 rfl (by omega) rfl HOR.out rfl (Rd.lit w5 #[.slice AN P.now.length cN] _) (m := 1) rfl (slice_one _ _ _) (by omega) (by omega) (by simp; omega) ?_); intro v' w6 o6 g6 a6; obtain ⟨A6, c6, rfl⟩ := own_form o6; have gg := (World.grownBy_alloc w5 (.cells #[.slice AN P.now.length cN] 24) _).trans g6; have O6 := Lib.hid (T5.out.push (by simp; omega) o6 g6 a6); have low := fun i (hi : i < lo) => gg.block i (by omega) (fun e => by have := LO.out _ e.symm; omega); have K6 := Lib.hid (show Blk w6 w.heap.size 28 #[.int .i64 0, .slice none 0 0, .bool false] from (low _ (by omega)).trans K5.out); have J6 := Lib.hid (show Blk w6 w1.heap.size 28 #[.int .i64 0, .slice AO P.paras.length cO, .bool false] from (low _ (by omega)).trans J5.out); have I6 := Lib.hid ((low w3.heap.size (by omega)).trans I5.out); have M6 := Lib.hid (show Mp w6 (w1.heap.size + 1) _ _ _ _ from ⟨(low _ (by omega)).trans M5.out.heap, M5.out.born, M5.out.nodup, M5.out.mem, M5.out.all⟩); have B6 := Lib.hid (B5.out.grown gg B5.out.size (fun b hb => by have := LO.out b hb; omega)); have hj1' := J6.out.cell 1 rfl; have hg1' := J6.out.frozen 1; have s6 : lo ≤ w6.heap.size := (by have := gg.size; omega); clear o6 g6 a6 gg low)
              have T7 := Lib.hid (Two.nil (O6.out.set ⟨w1.heap.size, 1, none⟩ (.slice A6 (P.paras.length + 1) c6) (.inl (by simp; omega))))
              have el : P.paras.length + 1 = (P.paras ++ [P.now]).length := by simp
              have T8 : Hid (Two (w6.setCell ⟨w1.heap.size, 1, none⟩ (.slice A6 (P.paras.length + 1) c6)) lo (w6.setCell ⟨w1.heap.size, 1, none⟩ (.slice A6 (P.paras.length + 1) c6)).heap.size 24 2 (.slice A6 (P.paras.length + 1) c6) (.slice none 0 0) (prun classN (zs.take (k + 1))).paras (prun classN (zs.take (k + 1))).now (us ++ [.slice AN P.now.length cN])) := Lib.hid (by
                rw [E1.out]; exact T7.out.more (Nat.le_refl _) (by simp))
              have K8 := Lib.hid (show Blk (w6.setCell ⟨w1.heap.size, 1, none⟩ (.slice A6 (P.paras.length + 1) c6)) w.heap.size 28 #[.int .i64 0, .slice none 0 0, .bool false] from (heap_setCell_other w6 ⟨w1.heap.size, 1, none⟩ _ _ (by simp; omega)).trans K6.out)
              have J8 := Lib.hid (show Blk (w6.setCell ⟨w1.heap.size, 1, none⟩ (.slice A6 (P.paras.length + 1) c6)) w1.heap.size 28 #[.int .i64 0, .slice A6 (P.paras.length + 1) c6, .bool false] from J6.out.set 1 _)
              have I8 := Lib.hid ((heap_setCell_other w6 ⟨w1.heap.size, 1, none⟩ w3.heap.size (.slice A6 (P.paras.length + 1) c6) (by simp; omega)).trans I6.out)
              have M8 := Lib.hid (show Mp (w6.setCell ⟨w1.heap.size, 1, none⟩ (.slice A6 (P.paras.length + 1) c6)) (w1.heap.size + 1) _ _ _ _ from ⟨(heap_setCell_other w6 ⟨w1.heap.size, 1, none⟩ _ _ (by simp)).trans M6.out.heap, M6.out.born, M6.out.nodup, M6.out.mem, M6.out.all⟩)
              have B8 := Lib.hid (B6.out.setCell (p := ⟨w1.heap.size, 1, none⟩) (by simp; omega) (.slice A6 (P.paras.length + 1) c6))
              go_roundw
              case rel => exact ⟨k + 1, _, _, LT.out, by rw [E1.out], T8, K8, J8, I8, M8, B8, by simp; omega⟩
              case measure =>
                rw [iter_at I8.out, iter_at hit.out]
                exact HMS.out
          · have hqe : (q == 10) = false := by simpa using h10
            have E1 := Lib.hid (show prun classN (zs.take (k + 1)) = ⟨P.paras, P.now ++ [z], z⟩ by
              rw [HST.out]; unfold pstep
              rw [if_neg hskip, if_neg (by rw [← hq.out]; exact h10)])
            clear hskip h10
            rcases hcond with hpe | ⟨hpe, hze⟩
            all_goals
              go_wp2_with fail
              refine HCB.out.mono ?_
              rintro e w5 ⟨rfl, b5⟩
              have s5 := b5.size
              have T5 := Lib.hid ((T4.out.below b5 (Nat.le_refl _)).alloc (.cells #[.int .i64 z] 2))
              have K5 := Lib.hid (K4.out.below b5 K4.out.lt)
              have J5 := Lib.hid (J4.out.below b5 J4.out.lt)
              have I5 := Lib.hid (iter_below I4.out b5 (at_lt I4.out))
              have M5 := Lib.hid (M4.out.below b5 M4.out.lt)
              have B5 := Lib.hid (below_on B4.out b5 (Nat.le_refl _))
              have HOR := Lib.hid T5.out.one.1
              clear b5 T4 K4 J4 I4 M4 B4
              go_wp2_with (at_builtin; go_loud (refine wpList_app rfl _ _ _ rfl lo Try.underlying24 hi hz0 hz1 hz2 rfl (by omega) rfl HOR.out rfl (Rd.lit w5 #[.int .i64 z] _) (m := 1) rfl (nums_one .i64 [z]) (by omega) (by omega) (by simp; omega) ?_); intro v' w6 o6 g6 a6; obtain ⟨A6, c6, rfl⟩ := own_form o6)
              have gg := (World.grownBy_alloc w5 (.cells #[.int .i64 z] 2) _).trans g6
              have T6 : Hid (Two w6 lo w6.heap.size 24 2 (.slice AO P.paras.length cO) (.slice A6 (P.now.length + 1) c6) (prun classN (zs.take (k + 1))).paras (prun classN (zs.take (k + 1))).now us) := Lib.hid (by
                rw [E1.out]; exact T5.out.add (by simp; omega) o6 g6 a6)
              have low := fun i (hi : i < lo) => gg.block i (by omega) (fun e => by have := LN.out _ e.symm; omega)
              have K6 := Lib.hid (show Blk w6 w.heap.size 28 #[.int .i64 0, .slice none 0 0, .bool false] from (low _ (by omega)).trans K5.out)
              have J6 := Lib.hid (show Blk w6 w1.heap.size 28 #[.int .i64 0, .slice AO P.paras.length cO, .bool false] from (low _ (by omega)).trans J5.out)
              have I6 := Lib.hid ((low w3.heap.size (by omega)).trans I5.out)
              have M6 := Lib.hid (show Mp w6 (w1.heap.size + 1) _ _ _ _ from ⟨(low _ (by omega)).trans M5.out.heap, M5.out.born, M5.out.nodup, M5.out.mem, M5.out.all⟩)
              have B6 := Lib.hid (B5.out.grown gg B5.out.size (fun b hb => by have := LN.out b hb; omega))
              have s6 : lo ≤ w6.heap.size := by have := gg.size; omega
              clear o6 g6 a6 gg low
              go_roundw
              case rel => exact ⟨k + 1, us, _, LT.out, by rw [E1.out], T6, K6, J6, I6, M6, B6, s6⟩
              case measure =>
                rw [iter_at I6.out, iter_at hit.out]
                exact HMS.out
  · have EL := Lib.hid (show parasV zs = [] by unfold parasV; rw [if_neg hz])
    have EE := Lib.hid (show endedV zs = false by unfold endedV; rw [if_neg hz])
    obtain ⟨q, hq⟩ : ∃ q, Hid (q = textF zs) := ⟨_, Lib.hid rfl⟩
    have hne : (q != 0) = true := by rw [hq.out]; simpa using hz
    have hd0 := k1.cell 0 (u := .int .i64 0) rfl
    have hd1 := k1.cell 1 (u := .slice none 0 0) rfl
    have hd2 := k1.cell 2 (u := .bool false) rfl
    have hf0 := k1.frozen 0
    have hf1 := k1.frozen 1
    have hf2 := k1.frozen 2
    clear hz
    rw [← hq.out]
    go_wp2
    refine bodyPost_ret (v := .agg #[.int .i64 q, .slice none 0 0, .bool false]) (by simp [results, Try.results13, go_sem, hd0, hd1, hd2]) rfl ?_
    rw [EL.out, EE.out, ← hq.out]
    exact ⟨⟨_, rfl, OwnSS.nil _ _ _ _ _ _⟩, ((b2.setCell (by simp) _).setCell (by simp) _).setCell (by simp) _⟩
end Go.Proofs.Ytmkpbfghnkmcgaa
