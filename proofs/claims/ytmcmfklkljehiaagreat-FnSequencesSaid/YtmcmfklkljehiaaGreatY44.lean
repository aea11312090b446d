/- Chapter 5's draw of two lists of sequences: what a turned field leaves. -/
import Derived.Test.YtmcmfklkljehiaaGreatY43
import Derived.Test.YtmcmfklkljehiaaGreatY33
import Derived.Test.YtmcmfklkljehiaaGreatY34
namespace Go.Proofs.YtmcmfklkljehiaaGreat
open Go.RowKit Go.Maps

theorem sequencesOf_vals (v : Value) (zs : List Int) (b : Int) (w : World) (B : Nat) (h : Sees w B .i64 v zs) (hB : B ≤ w.heap.size) (l : zs.length < 1000000000) (hwf : ∀ n ∈ zs, (Lit.int .i64 n).wf = true) (hcp : CapV v) (hb : (Lit.int .i64 b).wf = true) :
    Calls Tryz.prog 6 #[v, .int .i64 b] w fun e w' => (∃ u, e = .returned (.agg #[.int .i64 (paraF zs b), u]) ∧ OwnQS w' w.heap.size w'.heap.size 46 2 u (seqsV zs b)) ∧ Below w.heap.size w w' :=
  (sequencesOf_val v zs b w B h hB l hwf hcp hb).mono fun _ _ ⟨⟨u, us, he, ho⟩, hb⟩ => ⟨⟨u, he, us, ho⟩, hb⟩
set_option maxRecDepth 100000 in
set_option maxHeartbeats 1000000 in
theorem specSequencesOf_vals (v : Value) (zs : List Int) (b : Int) (w : World) (B : Nat) (h : Sees w B .i64 v zs) (hB : B ≤ w.heap.size) (l : zs.length < 1000000000) (_ : ∀ n ∈ zs, (Lit.int .i64 n).wf = true) (hcp : CapV v) (_ : (Lit.int .i64 b).wf = true) :
    Calls Tryz.prog 10 #[v, .int .i64 b] w fun e w' => (∃ u, e = .returned (.agg #[.int .i64 (paraF zs b), u]) ∧ OwnQS w' w.heap.size w'.heap.size 46 2 u (seqsV zs b)) ∧ Below w.heap.size w w' := by
  obtain ⟨A, c, rfl, hr⟩ := h
  have hc := (hcp A zs.length c rfl).1
  have HR := Lib.hid hr
  clear hr hcp
  have b0 := (Below.refl w.heap.size w).alloc (Nat.le_refl _) (.cells #[.int .i64 0, .slice none 0 0] 29)
  have k0 := Blk.new w 29 #[.int .i64 0, .slice none 0 0]
  have R1 := Lib.hid (HR.out.below ((Below.refl B w).alloc hB (.cells #[.int .i64 0, .slice none 0 0] 29)) (Nat.le_refl _))
  by_cases hz : paraF zs b = 0
  · have EC := Lib.hid (show seqsV zs b = seqsN (classesN zs) b by unfold seqsV; rw [if_pos hz])
    have HZ := Lib.hid hz
    have PZ := paraF_zero hz
    have HBb := Lib.hid (show 0 ≤ b ∧ b ≤ 1 from ⟨PZ.2.1, PZ.2.2.1⟩)
    have hll := (textF_zero PZ.1).1
    have HA := Lib.hid (textF_zero PZ.1).2
    have K0 := Lib.hid k0
    have B0 := Lib.hid b0
    have sz0 : (w.alloc (.cells #[.int .i64 0, .slice none 0 0] 29)).heap.size = w.heap.size + 1 := by simp
    clear k0 b0 PZ
    go_enter Tryz.func10, Tryz.ntmps10
    go_wp2_with fail
    refine (specParaFault_any A zs c b _ B R1.out l).mono ?_
    rintro e w' ⟨rfl, rfl⟩
    rw [hz]
    clear hz
    go_wp2_with fail
    refine (l4Explicit_any A zs c b _ B R1.out (by omega) hll HA.out hc HBb.out).mono ?_
    rintro e w1 ⟨⟨u1, u2, rfl, o1, o2, _⟩, b1⟩
    obtain ⟨A1, c1, rfl⟩ := o1.form
    obtain ⟨A2, c2, rfl⟩ := o2.form
    have K1 := Lib.hid (K0.out.below b1 K0.out.lt)
    have B1 := Lib.hid (below_on B0.out b1 (Nat.le_refl _))
    have s1 := K1.out.lt
    have R2 := Lib.hid (Rd.of o1.1)
    have RT := Lib.hid ((R1.out.below b1 (by omega)).more (show B ≤ w1.heap.size by omega))
    clear o1 o2 b1
    go_wp2_with fail
    refine (l5Sequences_any A A1 zs (levN (classesN zs) b) c c1 b _ _ RT.out R2.out (Nat.le_refl _) hll HA.out HBb.out rfl).mono ?_
    rintro e w3 ⟨⟨v3, us, rfl, o3⟩, b3⟩
    obtain ⟨A3, c3, rfl⟩ := o3.form
    have k3 := K1.out.below b3 K1.out.lt
    have B3 := Lib.hid (below_on B1.out b3 (Nat.le_refl _))
    have O3 := Lib.hid o3
    have hd0 := k3.cell 0 (u := .int .i64 0) rfl
    have hd1 := k3.cell 1 (u := .slice none 0 0) rfl
    have hf0 := k3.frozen 0
    have hf1 := k3.frozen 1
    clear o3 b3
    go_wp2
    refine bodyPost_ret (v := .agg #[.int .i64 0, .slice A3 (seqsN (classesN zs) b).length c3]) (by simp [results, Tryz.results10, go_sem, hd0, hd1]) rfl ?_
    rw [EC.out, HZ.out]
    exact ⟨⟨_, rfl, us, ((O3.out.set _ _ (.inl (by simp; omega))).set _ _ (.inl (by simp; omega))).more (by omega) (by simp)⟩, (B3.out.setCell (by simp) _).setCell (by simp) _⟩
  · have EC := Lib.hid (show seqsV zs b = [] by unfold seqsV; rw [if_neg hz])
    obtain ⟨q, hq⟩ : ∃ q, Hid (q = paraF zs b) := ⟨_, Lib.hid rfl⟩
    have hne : (q != 0) = true := by rw [hq.out]; simpa using hz
    have hd0 := k0.cell 0 (u := .int .i64 0) rfl
    have hd1 := k0.cell 1 (u := .slice none 0 0) rfl
    have hf0 := k0.frozen 0
    have hf1 := k0.frozen 1
    clear hz
    go_enter Tryz.func10, Tryz.ntmps10
    go_wp2_with fail
    refine (specParaFault_any A zs c b _ B R1.out l).mono ?_
    rintro e w' ⟨rfl, rfl⟩
    rw [← hq.out]
    go_wp2
    refine bodyPost_ret (v := .agg #[.int .i64 q, .slice none 0 0]) (by simp [results, Tryz.results10, go_sem, hd0, hd1]) rfl ?_
    rw [EC.out, ← hq.out]
    exact ⟨⟨_, rfl, OwnQS.nil _ _ _ _ _⟩, (Below.refl _ _).alloc (Nat.le_refl _) _⟩
end Go.Proofs.YtmcmfklkljehiaaGreat

namespace Go.Proofs.YtmcmfklkljehiaaGreat
open Go.RowKit

theorem seqsV_len (zs : List Int) (b : Int) : (seqsV zs b).length ≤ zs.length := by
  unfold seqsV
  split
  · unfold seqsN sqsOf
    rw [List.length_map]
    refine Nat.le_trans (List.length_filter_le _ _) ?_
    have := runsN_len (levN (classesN zs) b)
    rw [levN_len, classesN_len] at this
    exact this
  · simp
theorem seqsV_places (zs : List Int) (b : Int) (j : Nat) (h : j < (seqsV zs b).length) : (nthQ (seqsV zs b) j).places.length ≤ 300000000 := by
  have h1 := seqsV_bound zs b
  have h2 := sumQ_nth_le (seqsV zs b) j h
  omega
theorem contsQ_set (t : TypeId) (qs : List Sq) (j : Nat) (hj : j < qs.length) (q : Sq) : (fun k => if k = j * 4 then some (⟨t, .i64, q.places⟩ : Cont) else contsQ t qs k) = contsQ t (qs.set j q) := by
  funext k
  by_cases ek : k = j * 4
  · subst ek
    rw [if_pos rfl]
    unfold contsQ
    rw [if_pos (by omega), Nat.mul_div_cancel _ (by omega), List.getElem?_set_self hj]; rfl
  · rw [if_neg ek]
    unfold contsQ
    split
    · rw [List.getElem?_set_ne (by omega)]
    · rfl
theorem nthQ_set_self (qs : List Sq) (j : Nat) (hj : j < qs.length) (q : Sq) : nthQ (qs.set j q) j = q := by unfold nthQ; rw [List.getElem?_set_self hj]; rfl
theorem nthQ_set_ne (qs : List Sq) (j i : Nat) (h : i ≠ j) (q : Sq) : nthQ (qs.set j q) i = nthQ qs i := by unfold nthQ; rw [List.getElem?_set_ne (by omega)]
theorem scal_set {us : List Value} {qs : List Sq} (h : Scal us qs) (j : Nat) (hj : j < qs.length) (f : Nat) (hf : f ≤ 3) (u : Value) (q : Sq)
    (e : (us.set (j * 4 + f) u)[j * 4 + 1]? = some (.int .i64 q.level) ∧ (us.set (j * 4 + f) u)[j * 4 + 2]? = some (.int .i64 q.sos) ∧ (us.set (j * 4 + f) u)[j * 4 + 3]? = some (.int .i64 q.eos)) : Scal (us.set (j * 4 + f) u) (qs.set j q) := by
  intro i hi
  rw [List.length_set] at hi
  by_cases ei : i = j
  · subst ei
    rw [nthQ_set_self qs i hj]; exact e
  · rw [nthQ_set_ne qs j i ei]
    obtain ⟨s1, s2, s3⟩ := h i hi
    exact ⟨by rw [List.getElem?_set_ne (by omega)]; exact s1, by rw [List.getElem?_set_ne (by omega)]; exact s2, by rw [List.getElem?_set_ne (by omega)]; exact s3⟩
section
variable {w w1 : World} {lo hi : Nat} {tt t : TypeId} {g n cap : Nat} {qs : List Sq} {us : List Value}
/-- a number of one sequence is written -/
theorem OwnQ.put1 (h : OwnQ w lo hi tt t (.slice (some ⟨g, 0, none⟩) n cap) qs us) (hn : n = qs.length) {j : Nat} (hj : j < qs.length) (f : Nat) (hf : 1 ≤ f ∧ f ≤ 3) (x : Int) :
    ∃ ps, OwnQS (w.setCell ⟨g, j * 4 + f, none⟩ (.int .i64 x)) lo hi tt t (.slice (some ⟨g, 0, none⟩) n cap) ps ∧ ps.length = qs.length ∧ ∀ i, i < qs.length → (nthQ ps i).places.length ≤ (nthQ qs i).places.length + 1 := by
  subst hn
  have hl := h.len
  obtain ⟨s1, s2, s3⟩ := h.sc j hj
  have go : ∀ q : Sq, q.places = (nthQ qs j).places →
      ((us.set (j * 4 + f) (.int .i64 x))[j * 4 + 1]? = some (.int .i64 q.level) ∧ (us.set (j * 4 + f) (.int .i64 x))[j * 4 + 2]? = some (.int .i64 q.sos) ∧ (us.set (j * 4 + f) (.int .i64 x))[j * 4 + 3]? = some (.int .i64 q.eos)) →
      ∃ ps, OwnQS (w.setCell ⟨g, j * 4 + f, none⟩ (.int .i64 x)) lo hi tt t (.slice (some ⟨g, 0, none⟩) qs.length cap) ps ∧ ps.length = qs.length ∧ ∀ i, i < qs.length → (nthQ ps i).places.length ≤ (nthQ qs i).places.length + 1 := by
    intro q hq e
    have ec : contsQ t qs = contsQ t (qs.set j q) := by
      rw [← contsQ_set t qs j hj q]
      funext k
      by_cases ek : k = j * 4
      · subst ek; rw [if_pos rfl, contsQ_get t qs j hj, hq]
      · rw [if_neg ek]
    have none_ : contsQ t qs (j * 4 + f) = none := by unfold contsQ; rw [if_neg (by omega)]
    refine ⟨qs.set j q, ⟨_, ⟨?_, scal_set h.sc j hj f hf.2 _ q e⟩⟩, List.length_set, fun i hi => ?_⟩
    · rw [List.length_set, ← ec]; exact h.rows.put _ _ none_ rfl
    · by_cases ei : i = j
      · subst ei; rw [nthQ_set_self qs i hj, hq]; omega
      · rw [nthQ_set_ne qs j i ei]; omega
  obtain rfl | rfl | rfl : f = 1 ∨ f = 2 ∨ f = 3 := by omega
  · exact go ⟨(nthQ qs j).places, x, (nthQ qs j).sos, (nthQ qs j).eos⟩ rfl ⟨List.getElem?_set_self (by omega), by rw [List.getElem?_set_ne (by omega)]; exact s2, by rw [List.getElem?_set_ne (by omega)]; exact s3⟩
  · exact go ⟨(nthQ qs j).places, (nthQ qs j).level, x, (nthQ qs j).eos⟩ rfl ⟨by rw [List.getElem?_set_ne (by omega)]; exact s1, List.getElem?_set_self (by omega), by rw [List.getElem?_set_ne (by omega)]; exact s3⟩
  · exact go ⟨(nthQ qs j).places, (nthQ qs j).level, (nthQ qs j).sos, x⟩ rfl ⟨by rw [List.getElem?_set_ne (by omega)]; exact s1, by rw [List.getElem?_set_ne (by omega)]; exact s2, List.getElem?_set_self (by omega)⟩
/-- a place more is put behind those of one sequence -/
theorem OwnQ.more1 (h : OwnQ w lo hi tt t (.slice (some ⟨g, 0, none⟩) n cap) qs us) (hn : n = qs.length) {j : Nat} (hj : j < qs.length) {u u' : Value} (hu : us[j * 4]? = some u) (hhi : hi ≤ w.heap.size) (x : Int)
    (ho : w1.ownsRow lo t 1 u' ((nthQ qs j).places.length + 1) (nums .i64 (nthQ qs j).places ++ [.int .i64 x])) (hg : w.grownBy w1 u.ownBlock) (ha : u'.ownBlock = u.ownBlock ∨ u'.ownBlock = some w.heap.size) :
    ∃ ps, OwnQS (w1.setCell ⟨g, j * 4, none⟩ u') lo (w1.setCell ⟨g, j * 4, none⟩ u').heap.size tt t (.slice (some ⟨g, 0, none⟩) n cap) ps ∧ ps.length = qs.length ∧ ∀ i, i < qs.length → (nthQ ps i).places.length ≤ (nthQ qs i).places.length + 1 := by
  subst hn
  have hl := h.len
  obtain ⟨s1, s2, s3⟩ := h.sc j hj
  have r1 := h.rows.row.kept hg (own_ne_symm (v := u) (u := .slice (some ⟨g, 0, none⟩) qs.length cap) (h.rows.off _ u hu))
  have st := r1.stored (j * 4) u'
  have sw := h.rows.swap (ys := (nthQ qs j).places ++ [x]) (contsQ_get t qs j hj) hu hhi (by simpa [nums] using ho) hg ha st.1 st.2
  have ec := contsQ_set t qs j hj ⟨(nthQ qs j).places ++ [x], (nthQ qs j).level, (nthQ qs j).sos, (nthQ qs j).eos⟩
  refine ⟨qs.set j ⟨(nthQ qs j).places ++ [x], (nthQ qs j).level, (nthQ qs j).sos, (nthQ qs j).eos⟩, ⟨_, ⟨?_, scal_set (f := 0) h.sc j hj (by omega) u' _ ?_⟩⟩, List.length_set, fun i hi => ?_⟩
  · rw [List.length_set, ← ec]; exact sw
  · exact ⟨by rw [List.getElem?_set_ne (by omega)]; exact s1, by rw [List.getElem?_set_ne (by omega)]; exact s2, by rw [List.getElem?_set_ne (by omega)]; exact s3⟩
  · by_cases ei : i = j
    · subst ei; rw [nthQ_set_self qs i hj]; simp
    · rw [nthQ_set_ne qs j i ei]; omega
end
set_option maxRecDepth 100000 in
set_option maxHeartbeats 400000 in
theorem l1Later_two (A : Option Addr) (c : Nat) (zs : List Int) (w : World) (hr : Rd w w.heap.size A (nums .u8 zs)) :
    Calls Tryz.prog 27 #[.slice A zs.length c, .int .i64 2] w fun e w' => e = .returned (.pointer (some ⟨w.heap.size, 0, none⟩)) ∧ Src w' w.heap.size zs 19 ∧ Below w.heap.size w w' := by
  have HR := Lib.hid hr
  clear hr
  have b := (Below.refl w.heap.size w).alloc (Nat.le_refl _) (.cells #[.slice A zs.length c, .int .i64 19] 73)
  go_enter Tryz.func27, Tryz.ntmps27
  go_wp2
  go_ret
  exact ⟨rfl, ⟨A, c, Blk.new w _ _, HR.out.below b (Nat.le_refl _)⟩, b⟩
end Go.Proofs.YtmcmfklkljehiaaGreat
