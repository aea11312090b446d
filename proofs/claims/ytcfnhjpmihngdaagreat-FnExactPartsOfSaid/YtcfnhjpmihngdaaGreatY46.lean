/- Chapter 8: the program's PartsOf. -/
import Derived.Test.YtcfnhjpmihngdaaGreatY45
namespace Go.Proofs.YtcfnhjpmihngdaaGreat
open Go.RowKit Go.Maps

theorem partsV_of (ts : List Int) (b : Int) : partsV ts b = (placedV ts b).map (·.2) := by
  unfold placedV placedK partsV
  rw [List.take_length, List.map_map]
  by_cases h : paraF ts b = 0
  · rw [if_pos h]
    unfold partsN seqsV explC
    rw [if_pos h, if_pos h]; rfl
  · rw [if_neg h]
    unfold seqsV
    rw [if_neg h]; rfl
theorem pldParts_step (ds : List Pld) (k : Nat) (h : k < ds.length) : (ds.take (k + 1)).map (·.2) = (ds.take k).map (·.2) ++ [(nthD ds k).2] := by
  rw [List.take_succ_eq_append_getElem h, List.map_append]
  simp [nthD, List.getElem?_eq_getElem h]
theorem seqsV_len (zs : List Int) (b : Int) : (seqsV zs b).length ≤ 600 := by
  by_cases h : paraF zs b = 0
  · have PZ := paraF_zero h
    have e : seqsV zs b = seqsN (classesN zs) b := by unfold seqsV; rw [if_pos h]
    rw [e]; exact (seqs_ok (textF_zero PZ.1).1 ⟨PZ.2.1, PZ.2.2.1⟩).len
  · unfold seqsV; rw [if_neg h]; simp
theorem info_prt8 : (Tryz.prog.info? 39).map (fun i => (i.zero, i.size, i.bytes)) = some (some (.agg #[.slice none 0 0, .slice none 0 0, .slice none 0 0, .int .i64 0, .int .i64 0, .int .i64 0]), 6, 96) := by kernel_rfl
theorem pcells_one8 (A0 A1 A2 : Option Addr) (n0 n1 n2 c0 c1 c2 : Nat) (q : Prt) : ∀ u ∈ pcells (.slice A0 n0 c0) (.slice A1 n1 c1) (.slice A2 n2 c2) q, u.oneCell' = true := by
  intro u hu
  simp [pcells] at hu
  rcases hu with rfl | rfl | rfl | rfl | rfl | rfl <;> rfl
set_option maxRecDepth 100000 in
set_option maxHeartbeats 8000000 in
theorem partsOf_val (v : Value) (zs : List Int) (b : Int) (w : World) (B : Nat) (h : Sees w B .i64 v zs) (hB : B ≤ w.heap.size) (l : zs.length < 1000000000) (hwf : ∀ n ∈ zs, (Lit.int .i64 n).wf = true) (hcp : CapV v) (hb : (Lit.int .i64 b).wf = true) :
    Calls Tryz.prog 6 #[v, .int .i64 b] w fun e w' => (∃ u, e = .returned (.agg #[.int .i64 (paraF zs b), u]) ∧ OwnPT w' w.heap.size w'.heap.size 39 2 u (partsV zs b)) ∧ Below w.heap.size w w' := by
  obtain ⟨i0, hi, hz0, hz1, hz2⟩ := info_parts info_prt8
  have b0 := (Below.refl w.heap.size w).alloc (Nat.le_refl _) (.cells #[.int .i64 0, .slice none 0 0] 25)
  have k0 := Blk.new w 25 #[.int .i64 0, .slice none 0 0]
  have HS := Lib.hid (h.below ((Below.refl B w).alloc hB (.cells #[.int .i64 0, .slice none 0 0] 25)) (Nat.le_refl _))
  obtain ⟨A, c, rfl, hr⟩ := h
  have CP := Lib.hid (placedPartsOf_any (.slice A zs.length c) zs b _ B HS.out (by simp; omega) l hwf hcp hb)
  have EV := Lib.hid (partsV_of zs b)
  have DL := Lib.hid (placedV_len zs b)
  have QL := seqsV_len zs b
  obtain ⟨ds, hds⟩ : ∃ ds, Hid (ds = placedV zs b) := ⟨_, Lib.hid rfl⟩
  obtain ⟨fc, hfc⟩ : ∃ fc, Hid (fc = paraF zs b) := ⟨_, Lib.hid rfl⟩
  have FD := Lib.hid (show ¬ fc = 0 → ds = [] from fun hn => by
    rw [hds.out]; rw [hfc.out] at hn
    have : (seqsV zs b) = [] := by unfold seqsV; rw [if_neg hn]
    exact List.eq_nil_of_length_eq_zero (by rw [placedV_len, this]; rfl))
  rw [← hds.out] at EV DL CP
  rw [← hfc.out] at CP
  have K0 := Lib.hid k0
  have B0 := Lib.hid b0
  clear hr hwf hcp hb k0 b0 HS
  go_enter Tryz.func6, Tryz.ntmps6
  go_wp2_with fail
  refine CP.out.mono ?_
  rintro e w1 ⟨⟨u1, usD, rfl, o1⟩, b1⟩
  obtain ⟨AD, cD, rfl⟩ := o1.form
  have s1 := b1.size
  have K1 := Lib.hid (K0.out.below b1 (by simp))
  have B1 := Lib.hid (below_on B0.out b1 (Nat.le_refl _))
  have s0 := K1.out.lt
  have D1 := Lib.hid (o1.more (show w.heap.size + 1 ≤ (w.alloc (.cells #[.int .i64 0, .slice none 0 0] 25)).heap.size by simp) (Nat.le_refl _))
  have dl : ds.length ≤ 600 := by have := DL.out; omega
  clear CP o1 b1 K0 B0
  by_cases hz : fc = 0
  · subst hz
    go_wp2
    go_loopw [7, 22] (fun vP i wr => ∃ (k : Nat) (us : List Value), k ≤ ds.length ∧ i = .int .i64 k ∧ Hid (OwnPs wr (w.heap.size + 1) wr.heap.size 39 2 vP ((ds.take k).map (·.2)) us) ∧
      Hid (∀ (i : Nat) (x : Value), us[i]? = some x → i % 6 < 3 → usD[(i / 6) * 10 + 4 + i % 6]? = some x) ∧ Hid (∀ g, vP.ownBlock = some g → w1.heap.size ≤ g) ∧ Hid (Below w1.heap.size w1 wr)) (fun _ i _ => ds.length - (intOf i).toNat)
    case atStart => exact ⟨0, [], by omega, rfl, Lib.hid (OwnPs.nil _ _ _ _ _), Lib.hid (by simp), Lib.hid (by simp [Value.ownBlock]), Lib.hid (Below.refl _ _)⟩
    case round =>
      obtain ⟨k, us, hk, rfl, ho, hp, ht, hbr⟩ := hrel
      have wsz := hbr.out.size
      by_cases hlt : k < ds.length
      · have Dr := Lib.hid (D1.out.below hbr.out (Nat.le_refl _))
        obtain ⟨gD, cc, uq, u0, u1, u2, e1, hg1, hg2, ⟨hq, h0, h1, h2⟩, ⟨cq, c0, c1, c2⟩, oq, op, ⟨n1, n2, n3⟩, n7, n8, n9⟩ := Dr.out.at_ k hlt
        cases e1
        have EPK := Lib.hid (pldParts_step ds k hlt)
        have PL := Lib.hid (show ((ds.take k).map (·.2)).length = k by rw [List.length_map, List.length_take]; omega)
        obtain ⟨P, hP⟩ : ∃ P, Hid (P = (ds.take k).map (·.2)) := ⟨_, Lib.hid rfl⟩
        rw [← hP.out] at EPK PL ho
        obtain ⟨d, hd⟩ : ∃ d, Hid (d = nthD ds k) := ⟨_, Lib.hid rfl⟩
        rw [← hd.out] at oq op n1 n2 n3 n7 n8 n9 EPK
        have pl : P.length ≤ 600 := by have := PL.out; omega
        obtain ⟨AP, cP, rfl⟩ := ho.out.form
        obtain ⟨Aq, cq', rfl⟩ := oq.form
        obtain ⟨A0, c0', rfl⟩ := op.o0.form
        obtain ⟨A1, c1', rfl⟩ := op.o1.form
        obtain ⟨A2, c2', rfl⟩ := op.o2.form
        have E5 := Lib.hid (Blk.new wr 48 #[.slice Aq d.1.places.length cq', .int .i64 d.1.level, .int .i64 d.1.sos, .int .i64 d.1.eos, .slice A0 d.2.T.length c0', .slice A1 d.2.F.length c1', .slice A2 d.2.N.length c2', .int .i64 d.2.L, .int .i64 d.2.S, .int .i64 d.2.E])
        have f4 := E5.out.cell 4 (u := .slice A0 d.2.T.length c0') rfl
        have f5 := E5.out.cell 5 (u := .slice A1 d.2.F.length c1') rfl
        have f6 := E5.out.cell 6 (u := .slice A2 d.2.N.length c2') rfl
        have f7 := E5.out.cell 7 (u := .int .i64 d.2.L) rfl
        have f8 := E5.out.cell 8 (u := .int .i64 d.2.S) rfl
        have f9 := E5.out.cell 9 (u := .int .i64 d.2.E) rfl
        have R6 := Rd.lit (wr.alloc (.cells #[.slice Aq d.1.places.length cq', .int .i64 d.1.level, .int .i64 d.1.sos, .int .i64 d.1.eos, .slice A0 d.2.T.length c0', .slice A1 d.2.F.length c1', .slice A2 d.2.N.length c2', .int .i64 d.2.L, .int .i64 d.2.S, .int .i64 d.2.E] 48)) #[.slice A0 d.2.T.length c0', .slice A1 d.2.F.length c1', .slice A2 d.2.N.length c2', .int .i64 d.2.L, .int .i64 d.2.S, .int .i64 d.2.E] 39
        rw [World.size_alloc] at R6
        have R6h := Lib.hid R6
        have W6 := Lib.hid (((ho.out.alloc (.cells #[.slice Aq d.1.places.length cq', .int .i64 d.1.level, .int .i64 d.1.sos, .int .i64 d.1.eos, .slice A0 d.2.T.length c0', .slice A1 d.2.F.length c1', .slice A2 d.2.N.length c2', .int .i64 d.2.L, .int .i64 d.2.S, .int .i64 d.2.E] 48)).alloc (.cells #[.slice A0 d.2.T.length c0', .slice A1 d.2.F.length c1', .slice A2 d.2.N.length c2', .int .i64 d.2.L, .int .i64 d.2.S, .int .i64 d.2.E] 39)).more (Nat.le_refl _) (show wr.heap.size ≤ ((wr.alloc (.cells #[.slice Aq d.1.places.length cq', .int .i64 d.1.level, .int .i64 d.1.sos, .int .i64 d.1.eos, .slice A0 d.2.T.length c0', .slice A1 d.2.F.length c1', .slice A2 d.2.N.length c2', .int .i64 d.2.L, .int .i64 d.2.S, .int .i64 d.2.E] 48)).alloc (.cells #[.slice A0 d.2.T.length c0', .slice A1 d.2.F.length c1', .slice A2 d.2.N.length c2', .int .i64 d.2.L, .int .i64 d.2.S, .int .i64 d.2.E] 39)).heap.size by simp; omega))
        have P6 := Lib.hid (((op.keepA (.cells #[.slice Aq d.1.places.length cq', .int .i64 d.1.level, .int .i64 d.1.sos, .int .i64 d.1.eos, .slice A0 d.2.T.length c0', .slice A1 d.2.F.length c1', .slice A2 d.2.N.length c2', .int .i64 d.2.L, .int .i64 d.2.S, .int .i64 d.2.E] 48)).keepA (.cells #[.slice A0 d.2.T.length c0', .slice A1 d.2.F.length c1', .slice A2 d.2.N.length c2', .int .i64 d.2.L, .int .i64 d.2.S, .int .i64 d.2.E] 39)).moreP (show w1.heap.size ≤ ((wr.alloc (.cells #[.slice Aq d.1.places.length cq', .int .i64 d.1.level, .int .i64 d.1.sos, .int .i64 d.1.eos, .slice A0 d.2.T.length c0', .slice A1 d.2.F.length c1', .slice A2 d.2.N.length c2', .int .i64 d.2.L, .int .i64 d.2.S, .int .i64 d.2.E] 48)).alloc (.cells #[.slice A0 d.2.T.length c0', .slice A1 d.2.F.length c1', .slice A2 d.2.N.length c2', .int .i64 d.2.L, .int .i64 d.2.S, .int .i64 d.2.E] 39)).heap.size by simp; omega))
        have B6 := Lib.hid ((hbr.out.alloc wsz (.cells #[.slice Aq d.1.places.length cq', .int .i64 d.1.level, .int .i64 d.1.sos, .int .i64 d.1.eos, .slice A0 d.2.T.length c0', .slice A1 d.2.F.length c1', .slice A2 d.2.N.length c2', .int .i64 d.2.L, .int .i64 d.2.S, .int .i64 d.2.E] 48)).alloc (by simp; omega) (.cells #[.slice A0 d.2.T.length c0', .slice A1 d.2.F.length c1', .slice A2 d.2.N.length c2', .int .i64 d.2.L, .int .i64 d.2.S, .int .i64 d.2.E] 39))
        have ul := Lib.hid (show us.length = k * 6 by have := ho.out.len; have := PL.out; omega)
        have a2 := Lib.hid (show ∀ (i : Nat) (x : Value), us[i]? = some x → (x.ownBlock = none ∨ x.ownBlock ≠ (Value.slice A0 d.2.T.length c0').ownBlock) ∧ (x.ownBlock = none ∨ x.ownBlock ≠ (Value.slice A1 d.2.F.length c1').ownBlock) ∧ (x.ownBlock = none ∨ x.ownBlock ≠ (Value.slice A2 d.2.N.length c2').ownBlock) from by
          intro i x hx
          have il := (List.getElem?_eq_some_iff.1 hx).1
          have ul' := ul.out
          by_cases h3 : i % 6 < 3
          · have hx' := hp.out i x hx h3
            have ap := Dr.out.rows.apart
            exact ⟨ap _ _ _ _ (by omega) hx' h0, ap _ _ _ _ (by omega) hx' h1, ap _ _ _ _ (by omega) hx' h2⟩
          · have hn := ho.out.rows.bare i x hx (by unfold contsP; rw [if_neg h3])
            exact ⟨.inl hn, .inl hn, .inl hn⟩)
        have far := Lib.hid (show ∀ (u : Value) (xs : List Int), Own wr (w.heap.size + 1) w1.heap.size 2 .i64 u xs → u.ownBlock = none ∨ u.ownBlock ≠ (Value.slice AP P.length cP).ownBlock from by
          intro u xs ou
          by_cases hx0 : u.ownBlock = none
          · exact .inl hx0
          · refine .inr fun e => ?_
            obtain ⟨g, hg⟩ := Option.ne_none_iff_exists'.1 hx0
            have h1 := ht.out g (by rw [← e, hg])
            have h2 := (ou.lt g hg).2
            have h3 := ou.2 g hg
            omega)
        have a3 := Lib.hid (And.intro (far.out _ _ op.o0) (And.intro (far.out _ _ op.o1) (far.out _ _ op.o2)))
        have hq' := Lib.hid h0
        have hq1 := Lib.hid h1
        have hq2 := Lib.hid h2
        have lb : (P.length + 1) * 96 ≤ 140737488355328 := by omega
        have lm : P.length + 1 ≤ 140737488355328 := by omega
        have z6 : w.heap.size + 1 ≤ ((wr.alloc (.cells #[.slice Aq d.1.places.length cq', .int .i64 d.1.level, .int .i64 d.1.sos, .int .i64 d.1.eos, .slice A0 d.2.T.length c0', .slice A1 d.2.F.length c1', .slice A2 d.2.N.length c2', .int .i64 d.2.L, .int .i64 d.2.S, .int .i64 d.2.E] 48)).alloc (.cells #[.slice A0 d.2.T.length c0', .slice A1 d.2.F.length c1', .slice A2 d.2.N.length c2', .int .i64 d.2.L, .int .i64 d.2.S, .int .i64 d.2.E] 39)).heap.size := by simp; omega
        clear R6 op oq h0 h1 h2 hq
        go_wp2_with (at_builtin; go_loud (refine wpList_app rfl _ _ _ rfl (w.heap.size + 1) Tryz.underlying23 hi hz0 hz1 hz2 rfl (by omega) rfl W6.out.rows.row rfl R6h.out (m := 1) rfl (pcells_one8 A0 A1 A2 _ _ _ c0' c1' c2' d.2) lb lm z6 ?_); intro v' w7 o7 g7 a7; obtain ⟨A7, c7, rfl⟩ := own_form o7)
        have Q7 := Lib.hid (W6.out.push2 (Nat.le_refl _) P6.out a2.out a3.out o7 g7 a7)
        have B7 := Lib.hid (B6.out.grown g7 B6.out.size (fun bb hbb => ht.out bb hbb))
        have T7 := Lib.hid (show ∀ g, (Value.slice A7 (P.length + 1) c7).ownBlock = some g → w1.heap.size ≤ g from fun g hg => by
          rcases a7 with e | e
          · have e' : (Value.slice A7 (P.length + 1) c7).ownBlock = (Value.slice AP P.length cP).ownBlock := e
            exact ht.out g (by rw [← e']; exact hg)
          · have e' : (Value.slice A7 (P.length + 1) c7).ownBlock = some _ := e
            rw [e'] at hg; injection hg with hg; simp at hg; omega)
        have H7 := Lib.hid (show ∀ (i : Nat) (x : Value), (us ++ pcells (.slice A0 d.2.T.length c0') (.slice A1 d.2.F.length c1') (.slice A2 d.2.N.length c2') d.2)[i]? = some x → i % 6 < 3 → usD[(i / 6) * 10 + 4 + i % 6]? = some x from by
          intro i x hx h3
          have ul' := ul.out
          by_cases hi : i < us.length
          · rw [List.getElem?_append_left hi] at hx; exact hp.out i x hx h3
          · rw [List.getElem?_append_right (by omega)] at hx
            obtain ⟨j, rfl⟩ : ∃ j, i = k * 6 + j := ⟨i - k * 6, by omega⟩
            rw [ul', show k * 6 + j - k * 6 = j by omega] at hx
            match j with
            | 0 => simp [pcells] at hx; subst hx; rw [show (k * 6 + 0) / 6 = k by omega, show (k * 6 + 0) % 6 = 0 by omega]; exact hq'.out
            | 1 => simp [pcells] at hx; subst hx; rw [show (k * 6 + 1) / 6 = k by omega, show (k * 6 + 1) % 6 = 1 by omega]; exact hq1.out
            | 2 => simp [pcells] at hx; subst hx; rw [show (k * 6 + 2) / 6 = k by omega, show (k * 6 + 2) % 6 = 2 by omega]; exact hq2.out
            | 3 => omega
            | 4 => omega
            | 5 => omega
            | j + 6 => simp [pcells] at hx)
        clear o7 g7 a7 f4 f5 f6 f7 f8 f9 cq c0 c1 c2 n1 n2 n3 n7 n8 n9
        go_roundw
        case rel => exact ⟨k + 1, _, by omega, by go_num, by rw [EPK.out]; exact Q7, H7, T7, B7⟩
        case measure => first | omega | (simp [intOf]; omega)
      · have ET : (ds.take k).map (·.2) = ds.map (·.2) := by rw [List.take_of_length_le (by omega)]
        obtain ⟨P, hP⟩ : ∃ P, Hid (P = ds.map (·.2)) := ⟨_, Lib.hid rfl⟩
        rw [ET, ← hP.out] at ho
        obtain ⟨AP, cP, rfl⟩ := ho.out.form
        have HO := Lib.hid ho.out
        have Kr := Lib.hid (K1.out.below hbr.out s0)
        have Br := Lib.hid (below_on B1.out hbr.out (Nat.le_refl _))
        have hd0 := Kr.out.cell 0 (u := .int .i64 0) rfl
        have hd1 := Kr.out.cell 1 (u := .slice none 0 0) rfl
        have hf0 := Kr.out.frozen 0
        have hf1 := Kr.out.frozen 1
        clear ET ho
        go_wp2
        refine bodyPost_ret (v := .agg #[.int .i64 0, .slice AP P.length cP]) (by simp [results, Tryz.results6, go_sem, hd0, hd1]) rfl ?_
        rw [EV.out, ← hP.out, ← hfc.out]
        exact ⟨⟨_, rfl, us, ((HO.out.set _ _ (.inl (by show w.heap.size < w.heap.size + 1; omega))).set _ _ (.inl (by show w.heap.size < w.heap.size + 1; omega))).more (by omega) (by simp)⟩, (Br.out.setCell (by simp) _).setCell (by simp) _⟩
  · have hne : (fc != 0) = true := by simpa using hz
    have E0 := Lib.hid (FD.out hz)
    have hd0 := K1.out.cell 0 (u := .int .i64 0) rfl
    have hd1 := K1.out.cell 1 (u := .slice none 0 0) rfl
    have hf0 := K1.out.frozen 0
    have hf1 := K1.out.frozen 1
    clear hz
    go_wp2
    refine bodyPost_ret (v := .agg #[.int .i64 fc, .slice none 0 0]) (by simp [results, Tryz.results6, go_sem, hd0, hd1]) rfl ?_
    rw [EV.out, E0.out, ← hfc.out]
    exact ⟨⟨_, rfl, OwnPT.nil _ _ _ _ _⟩, (B1.out.setCell (by simp) _).setCell (by simp) _⟩
end Go.Proofs.YtcfnhjpmihngdaaGreat
