/- Chapter 5: the program's linker is made; a sequence from its first run. -/
import Derived.Test.YtcfnhjpmihngdaaGreatY37
import Derived.Test.YtcfnhjpmihngdaaGreatY17
import Derived.Test.YtcfnhjpmihngdaaGreatY34
import Derived.Test.YtcfnhjpmihngdaaGreatY06
import Derived.Deep.LoopGhost
import Derived.Deep.RegionHeld3
namespace Go.Proofs.YtcfnhjpmihngdaaGreat
open Go.RowKit Go.Maps

set_option maxRecDepth 100000 in
set_option maxHeartbeats 1000000 in
theorem linkerOf_any (A1 A3 : Option Addr) (ks ls : List Int) (c1 c3 : Nat) (b : Int) (w : World) (B : Nat) (h1 : Rd w B A1 (nums .i64 ks)) (h3 : Rd w B A3 (nums .i64 ls)) (hB : B ≤ w.heap.size) (hk : ks.length ≤ 600) (hl : ls.length ≤ 600) :
    Calls Tryz.prog 55 #[.slice A1 ks.length c1, .slice A3 ls.length c3, .int .i64 b] w fun e w' => (∃ g v2 AR cR, e = .returned (.pointer (some ⟨g, 0, none⟩)) ∧ Lk w' 90 w'.heap.size g b (.slice A1 ks.length c1) v2 (.slice A3 ls.length c3) (.slice AR (runsN ls).length cR) ks (matchN ks) ls (runsN ls)) ∧ Below w.heap.size w w' := by
  have H1 := Lib.hid h1
  have H3 := Lib.hid h3
  clear h1 h3
  go_enter Tryz.func55, Tryz.ntmps55
  go_wp2_with fail
  refine (matchesAmong_any A1 ks c1 w B H1.out hB hk).mono ?_
  rintro e w1 ⟨⟨v1, rfl, o1⟩, b1⟩
  obtain ⟨A2, c2, rfl⟩ := o1.form
  have P1 := Lib.hid (H1.out.below b1 hB)
  have P3 := Lib.hid (H3.out.below b1 hB)
  have O1 := Lib.hid o1
  have B1 := Lib.hid b1
  have s1 := b1.size
  clear o1 b1 H1 H3
  go_wp2_with fail
  refine (runsAmong_any A3 ls c3 w1 B P3.out (by omega) hl).mono ?_
  rintro e w2 ⟨⟨v2, rfl, o2⟩, b2⟩
  obtain ⟨AR, cR, rfl⟩ := o2.form
  have s2 := b2.size
  have B2 := Lib.hid (below_on B1.out b2 (Nat.le_refl _))
  have X := Lib.hid (((Below.refl w2.heap.size w2).alloc (Nat.le_refl _) (.cells #[.int .i64 b, .slice A1 ks.length c1, .slice A2 (matchN ks).length c2, .slice A3 ls.length c3, .slice AR (runsN ls).length cR] 90)))
  have L := Lib.hid (show Lk (w2.alloc (.cells #[.int .i64 b, .slice A1 ks.length c1, .slice A2 (matchN ks).length c2, .slice A3 ls.length c3, .slice AR (runsN ls).length cR] 90)) 90 (w2.heap.size + 1) w2.heap.size b (.slice A1 ks.length c1) (.slice A2 (matchN ks).length c2) (.slice A3 ls.length c3) (.slice AR (runsN ls).length cR) ks (matchN ks) ls (runsN ls) from by
    have q1 : Sees w2 w2.heap.size .i64 (.slice A1 ks.length c1) ks := ⟨_, _, rfl, (P1.out.below b2 (by omega)).more (by omega)⟩
    have q3 : Sees w2 w2.heap.size .i64 (.slice A3 ls.length c3) ls := ⟨_, _, rfl, (P3.out.below b2 (by omega)).more (by omega)⟩
    have q2 : Sees w2 w2.heap.size .i64 (.slice A2 (matchN ks).length c2) (matchN ks) := by
      obtain ⟨A, c, e, r⟩ := (O1.out.below b2 (Nat.le_refl _)).sees
      exact ⟨A, c, e, r.more s2⟩
    have qR := o2.sees
    have up : ∀ {v zs}, Sees w2 w2.heap.size .i64 v zs → Sees (w2.alloc (.cells #[.int .i64 b, .slice A1 ks.length c1, .slice A2 (matchN ks).length c2, .slice A3 ls.length c3, .slice AR (runsN ls).length cR] 90)) (w2.heap.size + 1) .i64 v zs := by
      intro v zs h
      obtain ⟨A, c, e, r⟩ := h.alloc (Nat.le_refl _) _
      exact ⟨A, c, e, r.more (by omega)⟩
    exact ⟨Blk.new w2 _ _, by omega, up q1, up q2, up q3, (qR.alloc (Nat.le_refl _) _).more (by omega)⟩)
  have BX := Lib.hid (B2.out.alloc B2.out.size (.cells #[.int .i64 b, .slice A1 ks.length c1, .slice A2 (matchN ks).length c2, .slice A3 ls.length c3, .slice AR (runsN ls).length cR] 90))
  clear o2 b2 P1 P3 O1 B1 B2
  go_wp2
  go_ret
  exact ⟨⟨_, _, _, _, rfl, by have := L.out; simpa using this⟩, BX.out⟩

/-- the runs of a linker, as the walk of a sequence wants them -/
structure RunsOk (n : Nat) (M : List Int) (R : List (List Int)) : Prop where
  len : R.length ≤ 600
  each : ∀ q ∈ R, 0 < q.length ∧ q.length ≤ 600 ∧ ∀ x ∈ q, 0 ≤ x ∧ x < n
  next : ∀ q ∈ R, (nextR M R q).length ≠ 0 → nextR M R q ∈ R ∧ lastOf q < lastOf (nextR M R q)
theorem nextR_len {n : Nat} {M : List Int} {R : List (List Int)} (h : RunsOk n M R) (r : List Int) : (nextR M R r).length ≤ 600 := by
  unfold nextR
  split
  · simp
  · unfold findR
    split
    · exact (h.each _ (nthL_mem (idxR_some (by assumption)).1)).2.1
    · simp
theorem chain_len {n : Nat} {M : List Int} {R : List (List Int)} (h : RunsOk n M R) : ∀ (f : Nat) (r : List Int), r.length ≤ 600 → (chain (nextR M R) f r).length ≤ f * 600
  | 0, _, _ => by simp [chain]
  | f + 1, r, hr => by
    by_cases h0 : r.length = 0
    · rw [List.eq_nil_of_length_eq_zero h0, chain_nil]; simp
    · rw [chain_cons _ _ _ h0, List.length_append]
      have := chain_len h f (nextR M R r) (nextR_len h r)
      omega
theorem chain_bound {n : Nat} {M : List Int} {R : List (List Int)} (h : RunsOk n M R) : ∀ (f : Nat) (r : List Int), (r.length ≠ 0 → r ∈ R) → ∀ x ∈ chain (nextR M R) f r, 0 ≤ x ∧ x < n
  | 0, _, _, x, hx => by simp [chain] at hx
  | f + 1, r, hr, x, hx => by
    by_cases h0 : r.length = 0
    · rw [List.eq_nil_of_length_eq_zero h0, chain_nil] at hx; simp at hx
    · rw [chain_cons _ _ _ h0] at hx
      rcases List.mem_append.1 hx with hx | hx
      · exact (h.each r (hr h0)).2.2 x hx
      · exact chain_bound h f _ (fun hn => (h.next r (hr h0) hn).1) x hx
theorem runs_ok (ks : List Int) (b : Int) (hk : ks.length ≤ 600) : RunsOk ks.length (matchN ks) (runsN (levN ks b)) := by
  refine ⟨by have := runsN_len (levN ks b); rw [levN_len] at this; omega, fun q hq => ⟨(run_facts hq).pos, ?_, (run_facts hq).bound⟩, fun q hq hn => next_facts hq hn⟩
  have h1 := runsN_total (levN ks b)
  rw [levN_len] at h1
  obtain ⟨i, hi, e⟩ := List.getElem_of_mem hq
  have h2 := total_nth_le (runsN (levN ks b)) i hi
  have e2 : nthL (runsN (levN ks b)) i = q := by simp [nthL, List.getElem?_eq_getElem hi, e]
  rw [e2] at h2
  omega

theorem set4_far (w : World) {g h i : Nat} (hg : h ≠ g) (a b c d : Value) : ((((w.setCell ⟨g, 0, none⟩ a).setCell ⟨g, 1, none⟩ b).setCell ⟨g, 2, none⟩ c).setCell ⟨g, 3, none⟩ d).cell? ⟨h, i, none⟩ = w.cell? ⟨h, i, none⟩ := by
  have e : ((((w.setCell ⟨g, 0, none⟩ a).setCell ⟨g, 1, none⟩ b).setCell ⟨g, 2, none⟩ c).setCell ⟨g, 3, none⟩ d).heap[h]? = w.heap[h]? := by
    rw [heap_setCell_other _ _ _ _ hg, heap_setCell_other _ _ _ _ hg, heap_setCell_other _ _ _ _ hg, heap_setCell_other _ _ _ _ hg]
  unfold World.cell?
  simp only [e]
section
variable {w : World} {B g : Nat} {b : Int} {v1 v2 v3 vR : Value} {ks M ls : List Int} {R : List (List Int)}
set_option maxRecDepth 100000 in
set_option maxHeartbeats 2000000 in
theorem sequenceFrom_any (h : Lk w 90 B g b v1 v2 v3 vR ks M ls R) (hB : B ≤ w.heap.size) (A : Option Addr) (r : List Int) (c : Nat) (hr : Rd w B A (nums .i64 r)) (hm : r ∈ R) (ok : RunsOk ks.length M R) (hM : M.length = ks.length) (hls : ls.length = ks.length) (hl : ks.length ≤ 600) (hcp : ∀ A c, v3 = .slice A ls.length c → ls.length ≤ c) :
    Calls Tryz.prog 57 #[.pointer (some ⟨g, 0, none⟩), .slice A r.length c] w fun e w' => (∃ u, e = .returned (.agg #[u, .int .i64 (sqOf ks M ls R b r).level, .int .i64 (sqOf ks M ls R b r).sos, .int .i64 (sqOf ks M ls R b r).eos]) ∧ Own w' w.heap.size w'.heap.size 2 .i64 u (sqOf ks M ls R b r).places) ∧ Below w.heap.size w w' := by
  obtain ⟨i0, hi, hz0, hz1, hz2⟩ := info_parts info_int64
  have OK := Lib.hid ok
  have CP := Lib.hid hcp
  obtain ⟨T, hT⟩ : ∃ T, Hid (T = chain (nextR M R) ls.length r) := ⟨_, Lib.hid rfl⟩
  have re := ok.each r hm
  have TL : T.length ≤ 360000 := by rw [hT.out]; have := chain_len ok ls.length r re.2.1; omega
  have b0 := (Below.refl w.heap.size w).alloc (Nat.le_refl _) (.cells #[.slice none 0 0, .int .i64 0, .int .i64 0, .int .i64 0] 43)
  have K0 := Lib.hid (Blk.new w 43 #[.slice none 0 0, .int .i64 0, .int .i64 0, .int .i64 0])
  have H1 := Lib.hid (h.below b0 hB)
  have S1 : Hid (Sees (w.alloc (.cells #[.slice none 0 0, .int .i64 0, .int .i64 0, .int .i64 0] 43)) B .i64 (.slice A r.length c) r) := Lib.hid ⟨_, _, rfl, hr.below b0 hB⟩
  have B0 := Lib.hid b0
  have RE := Lib.hid re
  have HM := Lib.hid hm
  have lsl : ls.length ≤ 600 := by omega
  have START : Hid ([] ++ chain (nextR M R) ls.length r = T) := Lib.hid (by rw [hT.out]; rfl)
  have O0 : Hid ((w.alloc (.cells #[.slice none 0 0, .int .i64 0, .int .i64 0, .int .i64 0] 43)).ownsRow (w.heap.size + 1) 2 1 (.slice none 0 0) ([] : List Int).length (nums .i64 [])) := Lib.hid (World.ownsRow_nil _ _ _ _)
  clear h b0 re hr hm ok hcp
  go_enter Tryz.func57, Tryz.ntmps57
  go_wp2
  go_loopg [5, 6] ls.length (fun gk vP vr wr => ∃ (P r' : List Int), Hid (P ++ chain (nextR M R) gk r' = T) ∧ Hid (r'.length ≠ 0 → r' ∈ R ∧ ((ls.length : Nat) : Int) ≤ (gk : Int) + lastOf r') ∧ Hid (Sees wr B .i64 vr r') ∧
    Hid (wr.ownsRow (w.heap.size + 1) 2 1 vP P.length (nums .i64 P)) ∧ Hid (Below (w.heap.size + 1) (w.alloc (.cells #[.slice none 0 0, .int .i64 0, .int .i64 0, .int .i64 0] 43)) wr))
  case atStart => exact ⟨[], r, START, Lib.hid (fun h => ⟨HM.out, by have := (RE.out.2.2 _ (lastOf_mem RE.out.1)).1; omega⟩), S1, O0, Lib.hid (Below.refl _ _)⟩
  case round =>
    clear START O0
    obtain ⟨P, r', hP, hr', hs, ho, hbr⟩ := hrel
    obtain ⟨AP, cP, rfl⟩ := own_form ho.out
    have wsz := hbr.out.size
    have wsz' : w.heap.size + 1 ≤ wr.heap.size := by simpa using wsz
    have H2 := Lib.hid (H1.out.below hbr.out (by omega))
    by_cases h0 : r'.length = 0
    · have EP : Hid (P = T) := Lib.hid (by have := hP.out; rw [List.eq_nil_of_length_eq_zero h0, chain_nil, List.append_nil] at this; exact this)
      have e0 : ((r'.length : Nat) : Int) = 0 := by omega
      obtain ⟨Ar, cr, rfl, rr⟩ := hs.out
      have T0 := Lib.hid (show 0 < T.length ∧ nth T 0 = nth r 0 by
        rw [hT.out]
        have hx : ls.length = (ls.length - 1) + 1 := by
          have := (RE.out.2.2 _ (lastOf_mem RE.out.1)); omega
        rw [hx, chain_cons _ _ _ (by have := RE.out.1; omega)]
        exact ⟨by have := RE.out.1; simp; omega, nth_left _ _ _ RE.out.1⟩)
      have e := EP.out
      subst e
      have BN := Lib.hid ((B0.out.trans (hbr.out.mono (by omega))))
      rw [h0]
      clear h0 hr' hs rr EP hP
      obtain ⟨m, hm⟩ : ∃ m, Hid (P.length = m + 1) := ⟨P.length - 1, Lib.hid (by have := T0.out.1; show P.length = _; omega)⟩
      have O1 := ho.out
      rw [hm.out] at O1 TL ⊢
      obtain ⟨gp, cp, eAP, hgp⟩ := own_addr O1 (by omega)
      injection eAP with eAP e2 e3
      subst eAP; subst e3
      clear e2
      have cpm := (own_cap O1).1
      have p0 := own_cell O1 0 (by omega)
      have pm := own_cell O1 m (by omega)
      have lo : nth P m = lastOf P := by unfold lastOf; rw [hm.out]; rfl
      rw [T0.out.2] at p0
      rw [lo] at pm
      have CB := Lib.hid (show 0 ≤ lastOf P ∧ lastOf P < ks.length from chain_bound OK.out ls.length r (fun _ => HM.out) _ (by rw [← hT.out]; exact lastOf_mem (by rw [hm.out]; omega)))
      obtain ⟨y, hy⟩ : ∃ y : Nat, Hid (lastOf P = (y : Int)) := ⟨(lastOf P).toNat, Lib.hid (by have := CB.out; show lastOf _ = _; omega)⟩
      obtain ⟨x, hx⟩ : ∃ x : Nat, Hid (nth r 0 = (x : Int)) := ⟨(nth r 0).toNat, Lib.hid (by have := RE.out.2.2 _ (nth_mem RE.out.1); show nth _ _ = _; omega)⟩
      have xlt : x < ls.length := by have := RE.out.2.2 _ (nth_mem RE.out.1); have := hx.out; omega
      have ylt : y < ks.length := by have := CB.out; have := hy.out; omega
      rw [hx.out] at p0
      rw [hy.out] at pm
      have e3 := H2.out.blk.cell 3 (u := v3) rfl
      obtain ⟨A3, c3, rfl, r3⟩ := H2.out.s3
      obtain ⟨b3, o3, rfl, hb3, hc3⟩ := r3.int (by omega)
      have hl3 := hc3 x xlt
      have EL : Hid (sqOf ks M ls R b r = ⟨P, nth ls x, sideN (mx (nth ls x) (aheadN ls b x)), sideN (mx (nth ls x) (behindN ks M ls b y))⟩) := Lib.hid (by
        unfold sqOf
        rw [← hT.out, hx.out, hy.out]
        simp [lev])
      obtain ⟨lx, hlx⟩ : ∃ lx, Hid (lx = nth ls x) := ⟨_, Lib.hid rfl⟩
      rw [← hlx.out] at hl3 EL
      have HO1 := Lib.hid O1
      clear lo hc3 r3 O1
      go_wp2
      go_quiet (fail)
      go_wp2
      have Hq := Lib.hid (H2.out.drew nq)
      have Oq : Hid ((wr.drewN nq).ownsRow (w.heap.size + 1) 2 1 (.slice (some ⟨gp, 0, none⟩) (m + 1) cP) (m + 1) (nums .i64 P)) := Lib.hid HO1.out
      have Kq : Hid (Blk (wr.drewN nq) w.heap.size 43 #[.slice none 0 0, .int .i64 0, .int .i64 0, .int .i64 0]) := Lib.hid (show Blk wr w.heap.size 43 #[.slice none 0 0, .int .i64 0, .int .i64 0, .int .i64 0] from K0.out.below hbr.out (Nat.lt_succ_self _))
      have Bq := Lib.hid (below_drewN BN.out nq)
      have qsz : w.heap.size + 1 ≤ (wr.drewN nq).heap.size := wsz'
      have hBq : B ≤ (wr.drewN nq).heap.size := by omega
      have q0 : (wr.drewN nq).cell? ⟨gp, 0, none⟩ = some (.int .i64 x) := p0
      have qm : (wr.drewN nq).cell? ⟨gp, m, none⟩ = some (.int .i64 y) := pm
      have wm : IntKind.i64.wrap ((m : Int) + 1 - 1) = (m : Int) := by rw [IntKind.wrap_i64]; omega
      have wm2 : IntKind.i64.wrap (m : Int) = (m : Int) := by rw [IntKind.wrap_i64]; omega
      have m0 : (0 : Int) ≤ (m : Int) := by omega
      have m1 : (m : Int) < (m : Int) + 1 := by omega
      clear p0 pm ho hbr HO1 H2 BN e3 hl3
      generalize wr.drewN nq = wq at *
      have hgw : gp ≠ w.heap.size := by omega
      have CA := Lib.hid (levelAhead_any (Hq.out.below (drew_below wq) hBq) hBq x (by omega) lsl CP.out)
      have pc0 := Lib.hid q0
      have pcm := Lib.hid qm
      obtain ⟨ah, hah⟩ : ∃ ah, Hid (ah = aheadN ls b x) := ⟨_, Lib.hid rfl⟩
      obtain ⟨bh, hbh⟩ : ∃ bh, Hid (bh = behindN ks M ls b y) := ⟨_, Lib.hid rfl⟩
      rw [← hah.out] at CA
      rw [← hah.out, ← hbh.out] at EL
      obtain ⟨m1, hm1⟩ : ∃ m1, (if lx < ah then ah else lx) = m1 := ⟨_, rfl⟩
      obtain ⟨m2, hm2⟩ : ∃ m2, (if lx < bh then bh else lx) = m2 := ⟨_, rfl⟩
      have E1 := Lib.hid (show mx lx ah = m1 by rw [← hm1]; unfold mx; split <;> split <;> omega)
      have E2 := Lib.hid (show mx lx bh = m2 by rw [← hm2]; unfold mx; split <;> split <;> omega)
      go_region_held3 (fun w' => w'.cell? ⟨gp, 0, none⟩ = some (.int .i64 x) ∧ w'.cell? ⟨gp, m, none⟩ = some (.int .i64 y)) (first | exact ⟨q0, qm⟩ | exact ⟨q70, q7m⟩ | exact ⟨q80, q8m⟩ | exact ⟨(set4_far w8 hgw _ _ _ _).trans q80, (set4_far w8 hgw _ _ _ _).trans q8m⟩) (first
        | (go_at_call 85; refine CA.out.mono ?_; rintro e w7 ⟨rfl, b7⟩
           have qb7 : Below wq.heap.size wq w7 := ⟨b7.os, b7.tape, b7.output, b7.size, b7.block⟩
           have H7 := Lib.hid (Hq.out.below qb7 hBq)
           have O7 := Lib.hid (own_below Oq.out qb7)
           have K7 := Lib.hid (Kq.out.below qb7 (by omega))
           have B7 := Lib.hid (below_on Bq.out qb7 (Nat.le_refl _))
           have q70 : w7.cell? ⟨gp, 0, none⟩ = some (.int .i64 x) := (qb7.cell (p := ⟨gp, 0, none⟩) (by have := (Oq.out.lt gp rfl).2; exact this)).trans pc0.out
           have q7m : w7.cell? ⟨gp, m, none⟩ = some (.int .i64 y) := (qb7.cell (p := ⟨gp, m, none⟩) (by have := (Oq.out.lt gp rfl).2; exact this)).trans pcm.out
           have h7sz := qb7.size
           have hB7 : B ≤ w7.heap.size := by omega
           have CB0 := Lib.hid (levelBehind_any H7.out hB7 y ylt hM hls hl CP.out); rw [← hbh.out] at CB0
           clear b7 qb7)
        | (go_at_call 84; refine (sideOf_any _ _).mono ?_; rintro e w' ⟨rfl, rfl⟩)
        | (go_at_call 86; refine CB0.out.mono ?_; rintro e w8 ⟨rfl, b8⟩
           have qb8 : Below w7.heap.size w7 w8 := ⟨b8.os, b8.tape, b8.output, b8.size, b8.block⟩
           have O8 := Lib.hid (own_below O7.out qb8)
           have K8 := Lib.hid (K7.out.below qb8 (by omega))
           have B8 := Lib.hid (below_on B7.out qb8 (Nat.le_refl _))
           have q80 : w8.cell? ⟨gp, 0, none⟩ = some (.int .i64 x) := (qb8.cell (p := ⟨gp, 0, none⟩) (by have := (O7.out.lt gp rfl).2; exact this)).trans q70
           have q8m : w8.cell? ⟨gp, m, none⟩ = some (.int .i64 y) := (qb8.cell (p := ⟨gp, m, none⟩) (by have := (O7.out.lt gp rfl).2; exact this)).trans q7m
           have hd0 := K8.out.cell 0 (u := .slice none 0 0) rfl
           have hd1 := K8.out.cell 1 (u := .int .i64 0) rfl
           have hd2 := K8.out.cell 2 (u := .int .i64 0) rfl
           have hd3 := K8.out.cell 3 (u := .int .i64 0) rfl
           have hf0 := K8.out.frozen 0
           have hf1 := K8.out.frozen 1
           have hf2 := K8.out.frozen 2
           have hf3 := K8.out.frozen 3
           clear b8 qb8))
      have KS := Lib.hid ((((K8.out.set 0 (.slice (some ⟨gp, 0, none⟩) (m + 1) cP)).set 1 (.int .i64 lx)).set 2 (.int .i64 (sqOf ks M ls R b r).sos)).set 3 (.int .i64 (sqOf ks M ls R b r).eos))
      have OW := Lib.hid (show Own w8 (w.heap.size + 1) w8.heap.size 2 .i64 (.slice (some ⟨gp, 0, none⟩) (m + 1) cP) P from Own.mk_ O8.out hm.out.symm)
      rw [EL.out, E1.out, E2.out] at KS
      go_wp2
      have z0 := KS.out.cell 0 (u := .slice (some ⟨gp, 0, none⟩) (m + 1) cP) rfl
      have z1 := KS.out.cell 1 (u := .int .i64 lx) rfl
      have z2 := KS.out.cell 2 rfl
      have z3 := KS.out.cell 3 rfl
      refine bodyPost_ret (v := .agg #[.slice (some ⟨gp, 0, none⟩) (m + 1) cP, .int .i64 lx, .int .i64 (sideN m1), .int .i64 (sideN m2)]) (by simp [results, Tryz.results57, go_sem, z0, z1, z2, z3]) rfl ?_
      rw [EL.out, E1.out, E2.out]
      refine ⟨⟨_, rfl, ?_⟩, (((B8.out.setCell (by simp) _).setCell (by simp) _).setCell (by simp) _).setCell (by simp) _⟩
      exact ((((OW.out.set _ _ (.inl (by simp))).set _ _ (.inl (by simp))).set _ _ (.inl (by simp))).set _ _ (.inl (by simp))).more (by omega) (by simp)
    · obtain ⟨hm', hg'⟩ := hr'.out h0
      have eq := OK.out.each r' hm'
      cases gk with
      | zero =>
        have := (eq.2.2 _ (lastOf_mem eq.1)).2
        omega
      | succ gk' =>
        have hpos : 0 < r'.length := eq.1
        have hp' : (0 : Int) < (r'.length : Int) := by omega
        obtain ⟨Ar, cr, rfl, rr⟩ := hs.out
        have EP := Lib.hid (show (P ++ r') ++ chain (nextR M R) gk' (nextR M R r') = T by have := hP.out; rw [chain_cons _ _ _ h0] at this; rw [List.append_assoc]; exact this)
        have pl : P.length + r'.length ≤ 360000 := by
          have := congrArg List.length EP.out
          simp at this; omega
        have RR := Lib.hid rr
        have EQ := Lib.hid eq
        have HG := Lib.hid hg'
        have HM' := Lib.hid hm'
        clear rr eq hg' hm' h0 hr' hs hP
        have tok1 : True := trivial
        go_wp2_with (first
          | (have _t := tok1; at_builtin; go_loud (refine wpList_app rfl _ _ _ rfl (w.heap.size + 1) Tryz.underlying22 hi hz0 hz1 hz2 rfl (by omega) rfl ho.out rfl RR.out (m := r'.length) (by rw [nums_length, Nat.mul_one]) (nums_one .i64 r') (by omega) (by omega) (by omega) ?_); intro v5 w5 o5 g5 a5; clear tok1; obtain ⟨A5, c5, rfl⟩ := own_form o5
             have bl5 := Lib.hid ((Below.refl (w.heap.size + 1) wr).grown g5 (by omega) (fun b hb => (ho.out.lt b hb).1))
             have H5 := Lib.hid (H2.out.below bl5.out (by omega))
             have RR5 := Lib.hid (RR.out.below bl5.out (by omega))
             have O5 := Lib.hid (show w5.ownsRow (w.heap.size + 1) 2 1 (.slice A5 (P.length + r'.length) c5) (P ++ r').length (nums .i64 (P ++ r')) by rw [List.length_append, nums_app]; exact o5)
             clear o5 g5 a5)
          | (go_at_call 83; refine (goesOnWith_any H5.out Ar r' cr RR5.out hpos (by have := (EQ.out.2.2 _ (lastOf_mem hpos)); omega) EQ.out.2.1 (fun q hq => (OK.out.each q hq).2.1) OK.out.len).mono ?_; rintro e w6 ⟨⟨u6, rfl, s6⟩, rfl⟩; have S6 := Lib.hid s6; clear s6))
        have NX := Lib.hid (show (nextR M R r').length ≠ 0 → nextR M R r' ∈ R ∧ ((ls.length : Nat) : Int) ≤ (gk' : Int) + lastOf (nextR M R r') from fun h => by
          have := OK.out.next r' HM'.out h
          have hg := HG.out
          exact ⟨this.1, by omega⟩)
        have B6 := Lib.hid (hbr.out.trans bl5.out)
        go_roundg gk'
        case measure => omega
        case rel => exact ⟨P ++ r', nextR M R r', EP, NX, S6, O5, B6⟩
end
end Go.Proofs.YtcfnhjpmihngdaaGreat
