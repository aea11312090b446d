/- Chapter 8: the program's placed parts. -/
import Derived.Test.YtcfnhjpmihngdaaGreatY44
import Derived.Test.YtcfnhjpmihngdaaGreatY35
import Derived.Test.YtcfnhjpmihngdaaGreatY39
import Derived.BigQuiet
namespace Go.Proofs.YtcfnhjpmihngdaaGreat
open Go.RowKit Go.Maps

theorem info_pld : (Tryz.prog.info? 48).map (fun i => (i.zero, i.size, i.bytes)) = some (some (.agg #[.slice none 0 0, .int .i64 0, .int .i64 0, .int .i64 0, .slice none 0 0, .slice none 0 0, .slice none 0 0, .int .i64 0, .int .i64 0, .int .i64 0]), 10, 144) := by kernel_rfl
theorem dcells_one (A A0 A1 A2 : Option Addr) (n n0 n1 n2 c c0 c1 c2 : Nat) (d : Pld) : ∀ u ∈ dcells (.slice A n c) (.slice A0 n0 c0) (.slice A1 n1 c1) (.slice A2 n2 c2) d, u.oneCell' = true := by
  intro u hu
  simp [dcells] at hu
  rcases hu with rfl | rfl | rfl | rfl | rfl | rfl | rfl | rfl | rfl | rfl <;> rfl
/-- the placed parts of the first k sequences -/
def placedK (ts cs : List Int) (Q : List Sq) (k : Nat) : List Pld := (Q.take k).map fun q => (q, partOf ts cs q)
def placedV (ts : List Int) (b : Int) : List Pld := placedK ts (explC ts b) (seqsV ts b) (seqsV ts b).length
theorem placedK_step (ts cs : List Int) (Q : List Sq) (k : Nat) (h : k < Q.length) : placedK ts cs Q (k + 1) = placedK ts cs Q k ++ [(nthQ Q k, partOf ts cs (nthQ Q k))] := by
  unfold placedK
  rw [List.take_succ_eq_append_getElem h, List.map_append]
  simp [nthQ, List.getElem?_eq_getElem h]
theorem placedK_len (ts cs : List Int) (Q : List Sq) (k : Nat) (h : k ≤ Q.length) : (placedK ts cs Q k).length = k := by unfold placedK; rw [List.length_map, List.length_take]; omega
theorem placedV_len (ts : List Int) (b : Int) : (placedV ts b).length = (seqsV ts b).length := placedK_len _ _ _ _ (Nat.le_refl _)
theorem placedK_nth (ts cs : List Int) (Q : List Sq) (k j : Nat) (hj : j < k) (h : k ≤ Q.length) : nthD (placedK ts cs Q k) j = (nthQ Q j, partOf ts cs (nthQ Q j)) := by
  unfold placedK nthD
  rw [List.getElem?_map, List.getElem?_take, if_pos hj, List.getElem?_eq_getElem (by omega)]
  simp [nthQ, List.getElem?_eq_getElem (show j < Q.length by omega)]
/-- what stands in a row that lies over the rows of the sequences -/
structure PldAt (usQ us : List Value) (v : Value) (lo : Nat) : Prop where
  low : ∀ (i : Nat) (x : Value), us[i]? = some x → i % 10 = 0 → usQ[(i / 10) * 4]? = some x
  high : ∀ (i : Nat) (x : Value) (g : Nat), us[i]? = some x → ¬ i % 10 = 0 → x.ownBlock = some g → lo ≤ g
  top : ∀ g, v.ownBlock = some g → lo ≤ g
theorem PldAt.nil (usQ : List Value) (lo : Nat) : PldAt usQ [] (.slice none 0 0) lo := ⟨by simp, by simp, by simp [Value.ownBlock]⟩
theorem PldAt.push {w w' : World} {usQ us : List Value} {v v' u u0 u1 u2 : Value} {lo k mid hi : Nat} {t : TypeId} {d : Pld} (h : PldAt usQ us v lo) (hl : us.length = k * 10) (hu : usQ[k * 4]? = some u) (ho : OwnPart w mid hi t u0 u1 u2 d.2) (hm : lo ≤ mid)
    (hv : v'.ownBlock = v.ownBlock ∨ v'.ownBlock = some w'.heap.size) (hw : lo ≤ w'.heap.size) : PldAt usQ (us ++ dcells u u0 u1 u2 d) v' lo := by
  have get : ∀ (i : Nat) (x : Value), (us ++ dcells u u0 u1 u2 d)[i]? = some x → (i < k * 10 ∧ us[i]? = some x) ∨ (∃ j, i = k * 10 + j ∧ j < 10 ∧ (dcells u u0 u1 u2 d)[j]? = some x) := by
    intro i x hx
    by_cases hi : i < us.length
    · rw [List.getElem?_append_left hi] at hx; exact .inl ⟨by omega, hx⟩
    · rw [List.getElem?_append_right (by omega)] at hx
      refine .inr ⟨i - us.length, by omega, ?_, hx⟩
      rcases Nat.lt_or_ge (i - us.length) 10 with h | h
      · exact h
      · rw [List.getElem?_eq_none (by simp [dcells]; omega)] at hx; cases hx
  refine ⟨fun i x hx h10 => ?_, fun i x g hx h10 hg => ?_, fun g hg => ?_⟩
  · rcases get i x hx with ⟨_, h1⟩ | ⟨j, rfl, hj, h1⟩
    · exact h.low i x h1 h10
    · have ej : j = 0 := by omega
      subst ej
      have e : x = u := by simp [dcells] at h1; exact h1.symm
      rw [e, show (k * 10 + 0) / 10 = k by omega]; exact hu
  · rcases get i x hx with ⟨_, h1⟩ | ⟨j, rfl, hj, h1⟩
    · exact h.high i x g h1 h10 hg
    · have own : ∀ (zs : List Int), Own w mid hi t .i64 x zs → lo ≤ g := fun zs o => by have := (o.lt g hg).1; omega
      match j with
      | 0 => omega
      | 1 => simp [dcells] at h1; subst h1; cases hg
      | 2 => simp [dcells] at h1; subst h1; cases hg
      | 3 => simp [dcells] at h1; subst h1; cases hg
      | 4 => simp [dcells] at h1; subst h1; exact own _ ho.o0
      | 5 => simp [dcells] at h1; subst h1; exact own _ ho.o1
      | 6 => simp [dcells] at h1; subst h1; exact own _ ho.o2
      | 7 => simp [dcells] at h1; subst h1; cases hg
      | 8 => simp [dcells] at h1; subst h1; cases hg
      | 9 => simp [dcells] at h1; subst h1; cases hg
      | j + 10 => omega
  · rcases hv with e | e
    · exact h.top g (by rw [← e]; exact hg)
    · rw [e] at hg; injection hg with hg; omega
theorem explC_len8 (zs : List Int) (b : Int) (h : paraF zs b = 0) : (explC zs b).length = zs.length := by unfold explC; rw [if_pos h, clsN_len, classesN_len]
/-- no sequences where there is a fault; all that is wanted of one where there is none -/
structure SeqAt (zs : List Int) (b : Int) (q : Sq) : Prop where
  zero : paraF zs b = 0
  few : q.places.length ≤ 600
  at_ : ∀ j, j < q.places.length → 0 ≤ nth q.places j ∧ (nth q.places j).toNat < zs.length
  cls : ∀ x ∈ pickN (explC zs b) q.places, In x
  sos : 0 ≤ q.sos ∧ q.sos ≤ 1
  eos : 0 ≤ q.eos ∧ q.eos ≤ 1
  lev : 0 ≤ q.level ∧ q.level ≤ 125
  none : partF (partOf zs (explC zs b) q) = 0
theorem seq_at {zs : List Int} {b : Int} {k : Nat} (h : k < (seqsV zs b).length) : SeqAt zs b (nthQ (seqsV zs b) k) := by
  have hz : paraF zs b = 0 := by
    refine Decidable.byContradiction fun hn => ?_
    unfold seqsV at h
    rw [if_neg hn] at h
    simp at h
  have EV : seqsV zs b = seqsN (classesN zs) b := by unfold seqsV; rw [if_pos hz]
  have EX : explC zs b = clsN (classesN zs) b := by unfold explC; rw [if_pos hz]
  rw [EV] at h ⊢
  have PZ := paraF_zero hz
  have hb : 0 ≤ b ∧ b ≤ 1 := ⟨PZ.2.1, PZ.2.2.1⟩
  have ok := (seqs_ok (zs := zs) (b := b) (textF_zero PZ.1).1 hb).each k h
  have m := nthQ_mem10 h
  have f := seq_facts hb m
  have hc : ∀ x ∈ zs, chrB x = true := List.all_eq_true.1 (textF_zero PZ.1).2
  refine ⟨hz, ok.1, ok.2, ?_, by have := f.2.2.1; omega, by have := f.2.2.2; omega, seq_level hb m, by rw [EX]; exact part_none hz m⟩
  rw [EX]
  intro x hx
  obtain ⟨p, hp, rfl⟩ := List.mem_map.1 hx
  have := f.2.1 p hp
  exact clsN_in _ b hb (classesN_in fun c hc' => by have := hc c hc'; unfold chrB at this; have := of_decide_eq_true this; omega) _ (by omega)

set_option maxRecDepth 100000 in
set_option maxHeartbeats 8000000 in
theorem placedPartsOf_any (v : Value) (zs : List Int) (b : Int) (w : World) (B : Nat) (h : Sees w B .i64 v zs) (hB : B ≤ w.heap.size) (l : zs.length < 1000000000) (hwf : ∀ n ∈ zs, (Lit.int .i64 n).wf = true) (hcp : CapV v) (hb : (Lit.int .i64 b).wf = true) :
    Calls Tryz.prog 16 #[v, .int .i64 b] w fun e w' => (∃ u us, e = .returned (.tuple #[u, .int .i64 (paraF zs b)]) ∧ OwnD w' w.heap.size w'.heap.size 48 2 u (placedV zs b) us) ∧ Below w.heap.size w w' := by
  obtain ⟨i0, hi, hz0, hz1, hz2⟩ := info_parts info_pld
  have HS := Lib.hid h
  obtain ⟨A, c, rfl, hr⟩ := h
  have CE := Lib.hid (explicitOf_val (.slice A zs.length c) zs b w B HS.out hB l hwf hcp hb)
  have CQ := Lib.hid (fun (W : World) (hS : Sees W B .i64 (.slice A zs.length c) zs) (hB' : B ≤ W.heap.size) => sequencesOf_val (.slice A zs.length c) zs b W B hS hB' l hwf hcp hb)
  have HR := Lib.hid hr
  clear hr hwf hcp hb
  go_enter Tryz.func16, Tryz.ntmps16
  go_wp2_with fail
  refine CE.out.mono ?_
  rintro e w1 ⟨⟨u1, u2, rfl, o1, o2, _⟩, b1⟩
  obtain ⟨A1, c1, rfl⟩ := o1.form
  obtain ⟨A2, c2, rfl⟩ := o2.form
  have s1 := b1.size
  have B1 := Lib.hid b1
  have O2 := Lib.hid o2
  clear CE o1 o2 b1
  go_wp2_with fail
  refine (CQ.out w1 (HS.out.below B1.out hB) (by omega)).mono ?_
  rintro e w2 ⟨⟨v3, usQ, rfl, o3⟩, b2⟩
  obtain ⟨A3, c3, rfl⟩ := o3.form
  have s2 := b2.size
  have B2 := Lib.hid (below_on B1.out b2 (Nat.le_refl _))
  have C2 := Lib.hid (O2.out.below b2 (Nat.le_refl _))
  have Z2 := Lib.hid ((HR.out.below B1.out hB).below b2 (by omega))
  have Q2 := Lib.hid o3
  obtain ⟨Q, hQ⟩ : ∃ Q, Hid (Q = seqsV zs b) := ⟨_, Lib.hid rfl⟩
  obtain ⟨cs, hcs⟩ : ∃ cs, Hid (cs = explC zs b) := ⟨_, Lib.hid rfl⟩
  obtain ⟨fc, hfc⟩ : ∃ fc, Hid (fc = paraF zs b) := ⟨_, Lib.hid rfl⟩
  have EP := Lib.hid (show placedV zs b = placedK zs cs Q Q.length by rw [hQ.out, hcs.out]; rfl)
  have SA := Lib.hid (show ∀ k, k < Q.length → SeqAt zs b (nthQ Q k) by rw [hQ.out]; exact fun k hk => seq_at hk)
  have CL := Lib.hid (show paraF zs b = 0 → cs.length = zs.length by rw [hcs.out]; exact explC_len8 zs b)
  have QB := seqsV_bound zs b
  rw [← hQ.out] at Q2 QB ⊢
  have QL : Q.length ≤ 300000000 := by omega
  rw [← hcs.out] at C2 ⊢
  rw [← hfc.out]
  clear O2 B1 o3 b2 QB CQ HR HS
  have K4 := Lib.hid ((Blk.new w2 71 #[.int .i64 fc, .slice A1 (explL zs b).length c1, .slice A2 cs.length c2]).alloc (.cells #[.int .i64 fc, .slice A3 Q.length c3] 74))
  have J4 := Lib.hid (Blk.new (w2.alloc (.cells #[.int .i64 fc, .slice A1 (explL zs b).length c1, .slice A2 cs.length c2] 71)) 74 #[.int .i64 fc, .slice A3 Q.length c3])
  have B24 := ((Below.refl w2.heap.size w2).alloc (Nat.le_refl _) (.cells #[.int .i64 fc, .slice A1 (explL zs b).length c1, .slice A2 cs.length c2] 71)).alloc (by simp) (.cells #[.int .i64 fc, .slice A3 Q.length c3] 74)
  have j1 := J4.out.cell 1 (u := .slice A3 Q.length c3) rfl
  rw [World.size_alloc] at j1
  have B4 := Lib.hid (below_on B2.out B24 (Nat.le_refl _))
  have C4 := Lib.hid (C2.out.below B24 s2)
  have Z4 := Lib.hid (Z2.out.below B24 (by omega))
  have Q4 := Lib.hid (Q2.out.below B24 (Nat.le_refl _))
  have S4 := Lib.hid (show ((w2.alloc (.cells #[.int .i64 fc, .slice A1 (explL zs b).length c1, .slice A2 cs.length c2] 71)).alloc (.cells #[.int .i64 fc, .slice A3 Q.length c3] 74)).heap.size = w2.heap.size + 2 by simp)
  clear B24 J4 B2 C2 Z2 Q2
  go_wp2
  clear j1
  generalize hw4 : (w2.alloc (.cells #[.int .i64 fc, .slice A1 (explL zs b).length c1, .slice A2 cs.length c2] 71)).alloc (.cells #[.int .i64 fc, .slice A3 Q.length c3] 74) = w4 at *
  clear hw4
  have s4 : w2.heap.size + 1 < w4.heap.size := by have := S4.out; omega
  go_loopw [8, 20] (fun vD i wr => ∃ (k : Nat) (us : List Value), k ≤ Q.length ∧ i = .int .i64 k ∧ Hid (OwnD wr w.heap.size wr.heap.size 48 2 vD (placedK zs cs Q k) us) ∧ Hid (PldAt usQ us vD w4.heap.size) ∧ Hid (Below w4.heap.size w4 wr)) (fun _ i _ => Q.length - (intOf i).toNat)
  case atStart => exact ⟨0, [], by omega, rfl, Lib.hid (OwnD.nil _ _ _ _ _), Lib.hid (PldAt.nil _ _), Lib.hid (Below.refl _ _)⟩
  case round =>
    obtain ⟨k, us, hk, rfl, hd, hp, hbr⟩ := hrel
    have wsz := hbr.out.size
    by_cases hlt : k < Q.length
    · have SAk := Lib.hid (SA.out k hlt)
      obtain ⟨gq, cq, uq, e1, hg1, hg2, huq, hc0, houq, hugq, hc1, hc2, hc3, _⟩ := (Q4.out.below hbr.out (by omega)).at_ k hlt
      cases e1
      have EPK := Lib.hid (placedK_step zs cs Q k hlt)
      have PL := Lib.hid (placedK_len zs cs Q k (by omega))
      obtain ⟨ds, hds⟩ : ∃ ds, Hid (ds = placedK zs cs Q k) := ⟨_, Lib.hid rfl⟩
      rw [← hds.out] at EPK PL hd
      obtain ⟨q, hq⟩ : ∃ q, Hid (q = nthQ Q k) := ⟨_, Lib.hid rfl⟩
      rw [← hq.out] at SAk EPK houq hc1 hc2 hc3
      have dl : ds.length ≤ 300000000 := by have := PL.out; omega
      obtain ⟨AD, cD, rfl⟩ := hd.out.form
      obtain ⟨Auq, cuq, rfl⟩ := houq.form
      obtain ⟨n, hn⟩ : ∃ n, Hid (n = q.places.length) := ⟨_, Lib.hid rfl⟩
      rw [← hn.out] at houq huq hc0 hugq
      have E5 := Lib.hid (Blk.new wr 43 #[.slice Auq n cuq, .int .i64 q.level, .int .i64 q.sos, .int .i64 q.eos])
      have f0 := E5.out.cell 0 (u := .slice Auq n cuq) rfl
      have f1 := E5.out.cell 1 (u := .int .i64 q.level) rfl
      have f2 := E5.out.cell 2 (u := .int .i64 q.sos) rfl
      have f3 := E5.out.cell 3 (u := .int .i64 q.eos) rfl
      have B5 := Lib.hid (hbr.out.alloc wsz (.cells #[.slice Auq n cuq, .int .i64 q.level, .int .i64 q.sos, .int .i64 q.eos] 43))
      have D5 := Lib.hid (hd.out.alloc (.cells #[.slice Auq n cuq, .int .i64 q.level, .int .i64 q.sos, .int .i64 q.eos] 43))
      have s5 : wr.heap.size < (wr.alloc (.cells #[.slice Auq n cuq, .int .i64 q.level, .int .i64 q.sos, .int .i64 q.eos] 43)).heap.size := by simp
      have U5 := Lib.hid (houq.alloc (.cells #[.slice Auq n cuq, .int .i64 q.level, .int .i64 q.sos, .int .i64 q.eos] 43))
      have HUQ := Lib.hid huq
      clear hd houq huq hugq
      go_wp2
      clear hc0 hc1 hc2 hc3
      generalize hw5 : wr.alloc (.cells #[.slice Auq n cuq, .int .i64 q.level, .int .i64 q.sos, .int .i64 q.eos] 43) = w5 at *
      clear hw5
      have fl := (K4.out.below B5.out (by omega)).cell 2 (u := .slice A2 cs.length c2) rfl
      have z5 := B5.out.size
      have CT := Lib.hid (show Calls Tryz.prog 39 #[.agg #[.slice Auq n cuq, .int .i64 q.level, .int .i64 q.sos, .int .i64 q.eos], .slice A zs.length c, .slice A2 cs.length c2] w5.drew fun e w' => (∃ u0 u1 u2, e = .returned (.agg #[u0, u1, u2, .int .i64 q.level, .int .i64 q.sos, .int .i64 q.eos]) ∧ OwnPart w' w5.heap.size w'.heap.size 2 u0 u1 u2 (partOf zs cs q)) ∧ Below w5.heap.size w5.drew w' from by
        have hU := (U5.out.more (Nat.le_refl _) (show w2.heap.size ≤ w5.heap.size by omega)).sees.below (drew_below w5) (Nat.le_refl _)
        have hZ := ((Z4.out.below B5.out (by omega)).more (show B ≤ w5.heap.size by omega)).below (drew_below w5) (Nat.le_refl _)
        have hC := ((Rd.of (C4.out.below B5.out (by omega)).1).more (show w5.heap.size ≤ w5.heap.size from Nat.le_refl _)).below (drew_below w5) (Nat.le_refl _)
        have sa := SAk.out
        exact partAmong_any (.slice Auq n cuq) q A A2 zs cs c c2 w5.drew w5.heap.size hU hZ hC (Nat.le_refl _) (CL.out sa.zero) sa.few sa.at_ (by rw [hcs.out]; exact sa.cls) sa.sos)
      have hup := Lib.hid (show ∀ (i : Nat) (x : Value), us[i]? = some x → x.ownBlock = none ∨ x.ownBlock ≠ (Value.slice Auq n cuq).ownBlock from by
        intro i x hx
        have il := (List.getElem?_eq_some_iff.1 hx).1
        have ul := D5.out.len
        have pl := PL.out
        by_cases h10 : i % 10 = 0
        · exact Q4.out.rows.apart ((i / 10) * 4) (k * 4) x _ (by omega) (hp.out.low i x hx h10) HUQ.out
        · by_cases hx0 : x.ownBlock = none
          · exact .inl hx0
          · refine .inr fun e => ?_
            obtain ⟨g, hg⟩ := Option.ne_none_iff_exists'.1 hx0
            have h1 := hp.out.high i x g hx h10 hg
            have h2 := (U5.out.lt g (by rw [← e, hg])).2
            omega)
      have huv := Lib.hid (show (Value.slice Auq n cuq).ownBlock = none ∨ (Value.slice Auq n cuq).ownBlock ≠ (Value.slice AD ds.length cD).ownBlock from by
        by_cases hx0 : (Value.slice Auq n cuq).ownBlock = none
        · exact .inl hx0
        · refine .inr fun e => ?_
          obtain ⟨g, hg⟩ := Option.ne_none_iff_exists'.1 hx0
          have h1 := hp.out.top g (by rw [← e, hg])
          have h2 := (U5.out.lt g hg).2
          omega)
      have lb : (ds.length + 1) * 144 ≤ 140737488355328 := by omega
      have lm : ds.length + 1 ≤ 140737488355328 := by omega
      have ul : us.length = k * 10 := by have := D5.out.len; have := PL.out; omega
      have UL := Lib.hid ul
      clear ul
      go_region_law (first
        | (refine step_call (by rfl) ?_; go_simp; go_at_call 39; refine CT.out.mono ?_; rintro e w6 ⟨⟨u0, u1, u2, rfl, o6⟩, b6'⟩
           have b6 : Below w5.heap.size w5 w6 := ⟨b6'.os, b6'.tape, b6'.output, b6'.size, b6'.block⟩
           obtain ⟨A60, c60, rfl⟩ := o6.o0.form
           obtain ⟨A61, c61, rfl⟩ := o6.o1.form
           obtain ⟨A62, c62, rfl⟩ := o6.o2.form
           have s6 := b6.size
           have E6 := Lib.hid (E5.out.below b6 (by omega))
           have E7 := Lib.hid (E6.out.alloc (.cells #[.slice Auq n cuq, .int .i64 q.level, .int .i64 q.sos, .int .i64 q.eos, .slice A60 (partOf zs cs q).T.length c60, .slice A61 (partOf zs cs q).F.length c61, .slice A62 (partOf zs cs q).N.length c62, .int .i64 q.level, .int .i64 q.sos, .int .i64 q.eos] 48))
           have D7 := Lib.hid ((D5.out.below b6 (by omega)).alloc (.cells #[.slice Auq n cuq, .int .i64 q.level, .int .i64 q.sos, .int .i64 q.eos, .slice A60 (partOf zs cs q).T.length c60, .slice A61 (partOf zs cs q).F.length c61, .slice A62 (partOf zs cs q).N.length c62, .int .i64 q.level, .int .i64 q.sos, .int .i64 q.eos] 48))
           have U7 := Lib.hid ((U5.out.below b6 (by omega)).alloc (.cells #[.slice Auq n cuq, .int .i64 q.level, .int .i64 q.sos, .int .i64 q.eos, .slice A60 (partOf zs cs q).T.length c60, .slice A61 (partOf zs cs q).F.length c61, .slice A62 (partOf zs cs q).N.length c62, .int .i64 q.level, .int .i64 q.sos, .int .i64 q.eos] 48))
           have O7 := Lib.hid (show OwnPart _ w5.heap.size w6.heap.size _ _ _ _ _ from OwnPart.keepA o6 (.cells #[.slice Auq n cuq, .int .i64 q.level, .int .i64 q.sos, .int .i64 q.eos, .slice A60 (partOf zs cs q).T.length c60, .slice A61 (partOf zs cs q).F.length c61, .slice A62 (partOf zs cs q).N.length c62, .int .i64 q.level, .int .i64 q.sos, .int .i64 q.eos] 48))
           have B7 := Lib.hid ((below_on B5.out b6 (Nat.le_refl _)).alloc (by omega) (.cells #[.slice Auq n cuq, .int .i64 q.level, .int .i64 q.sos, .int .i64 q.eos, .slice A60 (partOf zs cs q).T.length c60, .slice A61 (partOf zs cs q).F.length c61, .slice A62 (partOf zs cs q).N.length c62, .int .i64 q.level, .int .i64 q.sos, .int .i64 q.eos] 48))
           have R7 := Lib.hid (Rd.lit w6 #[.slice Auq n cuq, .int .i64 q.level, .int .i64 q.sos, .int .i64 q.eos, .slice A60 (partOf zs cs q).T.length c60, .slice A61 (partOf zs cs q).F.length c61, .slice A62 (partOf zs cs q).N.length c62, .int .i64 q.level, .int .i64 q.sos, .int .i64 q.eos] 48)
           have y7 : w6.heap.size ≤ (w6.alloc (.cells #[.slice Auq n cuq, .int .i64 q.level, .int .i64 q.sos, .int .i64 q.eos, .slice A60 (partOf zs cs q).T.length c60, .slice A61 (partOf zs cs q).F.length c61, .slice A62 (partOf zs cs q).N.length c62, .int .i64 q.level, .int .i64 q.sos, .int .i64 q.eos] 48)).heap.size := by simp
           have f60 := E6.out.cell 0 (u := .slice Auq n cuq) rfl
           have f61 := E6.out.cell 1 (u := .int .i64 q.level) rfl
           have f62 := E6.out.cell 2 (u := .int .i64 q.sos) rfl
           have f63 := E6.out.cell 3 (u := .int .i64 q.eos) rfl
           have f70 := E7.out.cell 0 (u := .slice Auq n cuq) rfl
           have f71 := E7.out.cell 1 (u := .int .i64 q.level) rfl
           have f72 := E7.out.cell 2 (u := .int .i64 q.sos) rfl
           have f73 := E7.out.cell 3 (u := .int .i64 q.eos) rfl
           clear o6 b6 b6')
        | (refine step_apps (by rfl) _ _ _ (by rfl) w.heap.size Tryz.underlying44 hi hz0 hz1 hz2 rfl (by omega) (by rfl) D7.out.rows.row (by rfl) (m := 1) R7.out rfl (dcells_one Auq A60 A61 A62 _ _ _ _ cuq c60 c61 c62 (q, partOf zs cs q)) lb lm (by omega) ?_; intro v' w8 o8 g8 a8
           obtain ⟨A8, c8, rfl⟩ := own_form o8
           have Q8 := Lib.hid ((D7.out.more (Nat.le_refl _) (show wr.heap.size ≤ w5.heap.size by omega)).push (mid := w5.heap.size) (hi := w6.heap.size) (d := (q, partOf zs cs q)) s6 y7 (by omega) (U7.out.more (by omega) (by omega)) O7.out hup.out huv.out o8 g8 a8)
           have P8 := Lib.hid (hp.out.push (k := k) (d := (q, partOf zs cs q)) UL.out HUQ.out O7.out z5 a8 (by omega))
           have B8 := Lib.hid (B7.out.grown g8 B7.out.size (fun bb hbb => hp.out.top bb hbb))
           clear o8 g8 a8))
      all_goals
        go_wp2
        go_roundw
        case rel => exact ⟨k + 1, _, by omega, by go_num, by rw [EPK.out]; exact Q8, P8, B8⟩
        case measure => first | omega | (simp [intOf]; omega)
    · have fz : wr.cell? ⟨w2.heap.size, 0, none⟩ = some (.int .i64 fc) := (K4.out.below hbr.out (by omega)).cell 0 (u := .int .i64 fc) rfl
      obtain ⟨AD, cD, hAD⟩ := hd.out.form
      have BB := Lib.hid (below_on B4.out hbr.out (by omega))
      have ek : Q.length = k := by omega
      obtain ⟨DS, hDS⟩ : ∃ DS, Hid (DS = placedK zs cs Q Q.length) := ⟨_, Lib.hid rfl⟩
      rw [show placedK zs cs Q k = DS by rw [hDS.out, ek]] at hd hAD
      subst hAD
      have HD := Lib.hid hd.out
      clear hd ek
      go_wp2
      go_quiet (fail)
      go_wp2
      refine bodyPost_ret (v := .tuple #[.slice AD DS.length cD, .int .i64 fc]) (by simp [results, Tryz.results16, go_sem]) rfl ?_
      rw [EP.out, ← hDS.out, ← hfc.out]
      exact ⟨⟨_, us, rfl, HD.out.keep (fun _ _ _ _ => rfl)⟩, ⟨BB.out.os, BB.out.tape, BB.out.output, BB.out.size, BB.out.block⟩⟩
end Go.Proofs.YtcfnhjpmihngdaaGreat
