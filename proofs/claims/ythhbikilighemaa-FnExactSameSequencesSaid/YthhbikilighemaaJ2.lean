/- The laws' copies of sequences, and how much they hold. -/
import Derived.Test.YthhbikilighemaaH7
namespace Go.Proofs.Ythhbikilighemaa
open Go.RowKit

theorem info_sq : (Try.prog.info? 62).map (fun i => (i.zero, i.size, i.bytes)) = some (some (.agg #[.slice none 0 0, .int .i64 0, .int .i64 0, .int .i64 0]), 4, 48) := by kernel_rfl

/-- a slice of a new block stands in a cell -/
theorem OwnC.place {w : World} {lo mid hi : Nat} {tt : TypeId} {size n g cap : Nat} {us : List Value} {cs : Nat → Option Cont} (h : OwnC w lo mid tt size (.slice (some ⟨g, 0, none⟩) n cap) n us cs) (hm : mid ≤ hi) (hl : lo ≤ mid) (k : Nat) (hk : k < us.length) {u : Value} {c : Cont} (ho : Own w mid hi c.t c.kd u c.zs) :
    OwnC (w.setCell ⟨g, k, none⟩ u) lo hi tt size (.slice (some ⟨g, 0, none⟩) n cap) n (us.set k u) (fun j => if j = k then some c else cs j) := by
  have st := h.row.stored k u
  have gv := h.vlt g rfl
  have far : ∀ (x : Value), (∀ b, x.ownBlock = some b → b < mid) → x.ownBlock = none ∨ x.ownBlock ≠ u.ownBlock := by
    intro x hx
    by_cases hn : x.ownBlock = none
    · exact .inl hn
    · refine .inr fun e => ?_
      obtain ⟨b, hb⟩ := Option.ne_none_iff_exists'.1 hn
      have h1 := hx b hb
      have h2 := ho.lt b (by rw [← e, hb])
      omega
  have uv : u.ownBlock = none ∨ u.ownBlock ≠ some g := by
    by_cases hn : u.ownBlock = none
    · exact .inl hn
    · refine .inr fun e => ?_
      have h2 := ho.lt g e
      omega
  have get : ∀ (j : Nat) (x : Value), (us.set k u)[j]? = some x → (j = k ∧ x = u) ∨ (j ≠ k ∧ us[j]? = some x) := by
    intro j x hx
    by_cases e : j = k
    · subst e
      rw [List.getElem?_set_self hk] at hx
      injection hx with hx
      exact .inl ⟨rfl, hx.symm⟩
    · rw [List.getElem?_set_ne (by omega)] at hx
      exact .inr ⟨e, hx⟩
  refine ⟨st.1, fun g' hg => by have := (h.vlt g' hg).2.1; omega, ?_, ?_, ?_, ?_⟩
  · intro j c' hj
    by_cases e : j = k
    · subst e
      rw [if_pos rfl] at hj
      injection hj with hj
      subst hj
      exact ⟨u, by rw [List.getElem?_set_self hk], own_more (ho.1.kept st.2 uv) hl, ho.2⟩
    · rw [if_neg e] at hj
      obtain ⟨x, h1, h2⟩ := h.each j c' hj
      exact ⟨x, by rw [List.getElem?_set_ne (by omega)]; exact h1, h2.1.kept st.2 (h.off j x h1), fun b hb => by have := h2.2 b hb; omega⟩
  · intro j x hx hj
    by_cases e : j = k
    · rw [if_pos e] at hj; cases hj
    · rw [if_neg e] at hj
      rcases get j x hx with ⟨e2, _⟩ | ⟨_, h1⟩
      · exact absurd e2 e
      · exact h.bare j x h1 hj
  · intro i j x y hij hx hy
    rcases get i x hx with ⟨e1, rfl⟩ | ⟨e1, h1⟩
    · rcases get j y hy with ⟨e2, rfl⟩ | ⟨e2, h2⟩
      · omega
      · exact own_ne_symm (far y fun b hb => (h.lts j y b h2 hb).2.1)
    · rcases get j y hy with ⟨e2, rfl⟩ | ⟨e2, h2⟩
      · exact far x fun b hb => (h.lts i x b h1 hb).2.1
      · exact h.apart i j x y hij h1 h2
  · intro j x hx
    rcases get j x hx with ⟨_, rfl⟩ | ⟨_, h1⟩
    · exact uv
    · exact h.off j x h1
/-- a whole sequence put in the place of another -/
theorem OwnQ.fill {w : World} {lo mid hi : Nat} {tt t : TypeId} {g n cap : Nat} {qs : List Sq} {us : List Value} (h : OwnQ w lo mid tt t (.slice (some ⟨g, 0, none⟩) n cap) qs us) (hn : n = qs.length) (hm : mid ≤ hi) (hlm : lo ≤ mid) {j : Nat} (hj : j < qs.length) {u : Value} {q : Sq} (ho : Own w mid hi t .i64 u q.places) :
    OwnQ ((((w.setCell ⟨g, j * 4, none⟩ u).setCell ⟨g, j * 4 + 1, none⟩ (.int .i64 q.level)).setCell ⟨g, j * 4 + 2, none⟩ (.int .i64 q.sos)).setCell ⟨g, j * 4 + 3, none⟩ (.int .i64 q.eos)) lo hi tt t (.slice (some ⟨g, 0, none⟩) n cap) (qs.set j q)
      ((((us.set (j * 4) u).set (j * 4 + 1) (.int .i64 q.level)).set (j * 4 + 2) (.int .i64 q.sos)).set (j * 4 + 3) (.int .i64 q.eos)) := by
  subst hn
  have hl := h.len
  have r1 := h.rows.place (c := ⟨t, .i64, q.places⟩) hm hlm (j * 4) (by omega) ho
  have nc : ∀ i, i % 4 ≠ 0 → (fun k => if k = j * 4 then some (⟨t, .i64, q.places⟩ : Cont) else contsQ t qs k) i = none := by
    intro i hi4
    simp only
    rw [if_neg (by omega)]
    unfold contsQ
    rw [if_neg hi4]
  have r4 := ((r1.put (j * 4 + 1) (.int .i64 q.level) (nc _ (by omega)) rfl).put (j * 4 + 2) (.int .i64 q.sos) (nc _ (by omega)) rfl).put (j * 4 + 3) (.int .i64 q.eos) (nc _ (by omega)) rfl
  have e : (fun k => if k = j * 4 then some (⟨t, .i64, q.places⟩ : Cont) else contsQ t qs k) = contsQ t (qs.set j q) := by
    funext k
    by_cases ek : k = j * 4
    · subst ek
      rw [if_pos rfl]
      unfold contsQ
      rw [if_pos (by omega), Nat.mul_div_cancel _ (by omega), List.getElem?_set_self hj]; rfl
    · rw [if_neg ek]
      unfold contsQ
      split
      · rw [List.getElem?_set_ne (by omega)]
      · rfl
  rw [e] at r4
  refine ⟨by rw [List.length_set]; exact r4, fun i hi' => ?_⟩
  rw [List.length_set] at hi'
  by_cases ei : i = j
  · subst ei
    have en : nthQ (qs.set i q) i = q := by unfold nthQ; rw [List.getElem?_set_self hj]; rfl
    rw [en]
    refine ⟨?_, ?_, ?_⟩
    · rw [List.getElem?_set_ne (by omega), List.getElem?_set_ne (by omega), List.getElem?_set_self (by simp; omega)]
    · rw [List.getElem?_set_ne (by omega), List.getElem?_set_self (by simp; omega)]
    · rw [List.getElem?_set_self (by simp; omega)]
  · have en : nthQ (qs.set j q) i = nthQ qs i := by unfold nthQ; rw [List.getElem?_set_ne (by omega)]
    rw [en]
    obtain ⟨s1, s2, s3⟩ := h.sc i hi'
    refine ⟨?_, ?_, ?_⟩
    · rw [List.getElem?_set_ne (by omega), List.getElem?_set_ne (by omega), List.getElem?_set_ne (by omega), List.getElem?_set_ne (by omega)]; exact s1
    · rw [List.getElem?_set_ne (by omega), List.getElem?_set_ne (by omega), List.getElem?_set_ne (by omega), List.getElem?_set_ne (by omega)]; exact s2
    · rw [List.getElem?_set_ne (by omega), List.getElem?_set_ne (by omega), List.getElem?_set_ne (by omega), List.getElem?_set_ne (by omega)]; exact s3
def noSq : Sq := ⟨[], 0, 0, 0⟩
/-- a slice just made -/
theorem madeQ (n i : Nat) (h : i < n * 4) : (madeCells #[Value.slice none 0 0, .int .i64 0, .int .i64 0, .int .i64 0] (n * 4)).toList[i]? = some (if i % 4 = 0 then .slice none 0 0 else .int .i64 0) := by
  have hm : i % 4 = 0 ∨ i % 4 = 1 ∨ i % 4 = 2 ∨ i % 4 = 3 := by omega
  rcases hm with hm | hm | hm | hm <;> simp [madeCells, h, hm]
theorem nthQ_rep (n j : Nat) (h : j < n) : nthQ (List.replicate n noSq) j = noSq := by simp [nthQ, h]
theorem OwnQ.made {w : World} {lo hi : Nat} {tt t : TypeId} {g n cap : Nat} (h : w.ownsRow lo tt 4 (.slice (some ⟨g, 0, none⟩) n cap) n (madeCells #[Value.slice none 0 0, .int .i64 0, .int .i64 0, .int .i64 0] (n * 4)).toList) (hg : g < hi) :
    OwnQ w lo hi tt t (.slice (some ⟨g, 0, none⟩) n cap) (List.replicate n noSq) (madeCells #[Value.slice none 0 0, .int .i64 0, .int .i64 0, .int .i64 0] (n * 4)).toList := by
  have nb : ∀ (k : Nat) (u : Value), (madeCells #[Value.slice none 0 0, .int .i64 0, .int .i64 0, .int .i64 0] (n * 4)).toList[k]? = some u → u.ownBlock = none := by
    intro k u hu
    have hk : k < n * 4 := by
      have := (List.getElem?_eq_some_iff.1 hu).1
      simpa [size_madeCells] using this
    rw [madeQ n k hk] at hu
    injection hu with hu
    subst hu
    split <;> rfl
  refine ⟨⟨by rw [List.length_replicate]; exact h, fun g' hg' => by simp [Value.ownBlock] at hg'; omega, ?_, fun k u hu _ => nb k u hu, fun i j u u' _ hu _ => .inl (nb i u hu), fun k u hu => .inl (nb k u hu)⟩, ?_⟩
  · intro k c hc
    obtain ⟨j, hj, rfl, rfl⟩ := contsQ_some _ _ _ _ hc
    rw [List.length_replicate] at hj
    rw [nthQ_rep n j hj]
    exact ⟨.slice none 0 0, by rw [madeQ n (j * 4) (by omega), if_pos (by omega)], Own.nil _ _ _ _ _⟩
  · intro j hj
    rw [List.length_replicate] at hj
    rw [nthQ_rep n j hj]
    refine ⟨?_, ?_, ?_⟩
    · rw [madeQ n _ (by omega), if_neg (by omega)]; rfl
    · rw [madeQ n _ (by omega), if_neg (by omega)]; rfl
    · rw [madeQ n _ (by omega), if_neg (by omega)]; rfl
/-- the first j of qs, then none -/
def partQ (qs : List Sq) (j : Nat) : List Sq := qs.take j ++ List.replicate (qs.length - j) noSq
theorem partQ_len (qs : List Sq) (j : Nat) (h : j ≤ qs.length) : (partQ qs j).length = qs.length := by simp [partQ]; omega
theorem partQ_step (qs : List Sq) (j : Nat) (h : j < qs.length) : (partQ qs j).set j (nthQ qs j) = partQ qs (j + 1) := by
  have e : qs.take (j + 1) = qs.take j ++ [nthQ qs j] := by
    rw [List.take_succ_eq_append_getElem h]; simp [nthQ, List.getElem?_eq_getElem h]
  unfold partQ
  rw [show qs.length - j = (qs.length - (j + 1)) + 1 by omega, List.replicate_succ, List.set_append_right _ _ (by simp; omega), List.length_take, Nat.min_eq_left (by omega), Nat.sub_self, List.set_cons_zero, e]
  simp
theorem partQ_zero (qs : List Sq) : partQ qs 0 = List.replicate qs.length noSq := by simp [partQ]
theorem partQ_all (qs : List Sq) : partQ qs qs.length = qs := by simp [partQ]

set_option maxRecDepth 100000 in
set_option maxHeartbeats 1000000 in
theorem toSequence_own (u : Value) (q : Sq) (w : World) (B : Nat) (h : Sees w B .i64 u q.places) (hB : B ≤ w.heap.size) (hl : q.places.length < 1000000000) :
    Calls Try.prog 45 #[.agg #[u, .int .i64 q.level, .int .i64 q.sos, .int .i64 q.eos]] w fun e w' => (∃ u', e = .returned (.agg #[u', .int .i64 q.level, .int .i64 q.sos, .int .i64 q.eos]) ∧ Own w' w.heap.size w'.heap.size 2 .i64 u' q.places) ∧ Below w.heap.size w w' := by
  have b0 := (((Below.refl w.heap.size w).alloc (Nat.le_refl _) (.cells #[u, .int .i64 q.level, .int .i64 q.sos, .int .i64 q.eos] 66)).alloc (by simp) (.cells #[.slice none 0 0, .int .i64 0, .int .i64 0, .int .i64 0] 62)).alloc (by simp; omega) (.cells #[.slice none 0 0, .int .i64 0, .int .i64 0, .int .i64 0] 62)
  have k1 := ((Blk.new w 66 #[u, .int .i64 q.level, .int .i64 q.sos, .int .i64 q.eos]).alloc (.cells #[.slice none 0 0, .int .i64 0, .int .i64 0, .int .i64 0] 62)).alloc (.cells #[.slice none 0 0, .int .i64 0, .int .i64 0, .int .i64 0] 62)
  have k2 := (Blk.new (w.alloc (.cells #[u, .int .i64 q.level, .int .i64 q.sos, .int .i64 q.eos] 66)) 62 #[.slice none 0 0, .int .i64 0, .int .i64 0, .int .i64 0]).alloc (.cells #[.slice none 0 0, .int .i64 0, .int .i64 0, .int .i64 0] 62)
  have k3 := Blk.new ((w.alloc (.cells #[u, .int .i64 q.level, .int .i64 q.sos, .int .i64 q.eos] 66)).alloc (.cells #[.slice none 0 0, .int .i64 0, .int .i64 0, .int .i64 0] 62)) 62 #[.slice none 0 0, .int .i64 0, .int .i64 0, .int .i64 0]
  simp only [World.size_alloc] at k2 k3
  have S0 := Lib.hid (h.below b0 hB)
  obtain ⟨A, c, rfl, _⟩ := h
  have sz0 : (((w.alloc (.cells #[.slice A q.places.length c, .int .i64 q.level, .int .i64 q.sos, .int .i64 q.eos] 66)).alloc (.cells #[.slice none 0 0, .int .i64 0, .int .i64 0, .int .i64 0] 62)).alloc (.cells #[.slice none 0 0, .int .i64 0, .int .i64 0, .int .i64 0] 62)).heap.size = w.heap.size + 1 + 1 + 1 := by simp
  go_enter Try.func45, Try.ntmps45
  go_wp2_with fail
  refine (toInt64S_own (.slice A q.places.length c) q.places _ B S0.out (by omega) hl).mono ?_
  rintro e w1 ⟨⟨v1, rfl, o1⟩, b1⟩
  obtain ⟨A1, c1, rfl⟩ := o1.form
  have K1 := k1.below b1 k1.lt
  have K2 := k2.below b1 k2.lt
  have K3 := k3.below b1 k3.lt
  have B1 := Lib.hid (below_on b0 b1 (Nat.le_refl _))
  have O1 := Lib.hid o1
  have s1 := b1.size
  have a1 := K1.cell 1 (u := .int .i64 q.level) rfl
  have a2 := K1.cell 2 (u := .int .i64 q.sos) rfl
  have a3 := K1.cell 3 (u := .int .i64 q.eos) rfl
  have d0 := K2.cell 0 (u := .slice none 0 0) rfl
  have d1 := K2.cell 1 (u := .int .i64 0) rfl
  have d2 := K2.cell 2 (u := .int .i64 0) rfl
  have d3 := K2.cell 3 (u := .int .i64 0) rfl
  have e0 := K3.cell 0 (u := .slice none 0 0) rfl
  have e1 := K3.cell 1 (u := .int .i64 0) rfl
  have e2 := K3.cell 2 (u := .int .i64 0) rfl
  have e3 := K3.cell 3 (u := .int .i64 0) rfl
  have f0 := K2.frozen 0
  have f1 := K2.frozen 1
  have f2 := K2.frozen 2
  have f3 := K2.frozen 3
  have g0 := K3.frozen 0
  have g1 := K3.frozen 1
  have g2 := K3.frozen 2
  have g3 := K3.frozen 3
  clear o1 b1 k1 k2 k3 b0
  go_wp2
  refine bodyPost_ret (v := .agg #[.slice A1 q.places.length c1, .int .i64 q.level, .int .i64 q.sos, .int .i64 q.eos]) (by simp [results, Try.results45, go_sem, d0, d1, d2, d3]) rfl ?_
  rw [sz0] at O1
  refine ⟨⟨_, rfl, ?_⟩, ((((((((B1.out.setCell (by simp; omega) _).setCell (by simp; omega) _).setCell (by simp; omega) _).setCell (by simp; omega) _).setCell (by simp) _).setCell (by simp) _).setCell (by simp) _).setCell (by simp) _)⟩
  exact ((((((((O1.out.set _ _ (.inl (by simp))).set _ _ (.inl (by simp))).set _ _ (.inl (by simp))).set _ _ (.inl (by simp))).set _ _ (.inl (by simp))).set _ _ (.inl (by simp))).set _ _ (.inl (by simp))).set _ _ (.inl (by simp))).more (by omega) (by simp)
set_option maxRecDepth 100000 in
set_option maxHeartbeats 2000000 in
theorem toSequenceS_own (v : Value) (qs : List Sq) (w : World) (B : Nat) (h : SeesQS w B v qs) (hB : B ≤ w.heap.size) (hl : qs.length < 2000000) (hp : ∀ j, j < qs.length → (nthQ qs j).places.length < 2000000) :
    Calls Try.prog 24 #[v] w fun e w' => (∃ v', e = .returned v' ∧ OwnQS w' w.heap.size w'.heap.size 62 2 v' qs) ∧ Below w.heap.size w w' := by
  obtain ⟨i0, hi, hz0, hz1, hz2⟩ := info_parts info_sq
  obtain ⟨us, h⟩ := h
  have H := Lib.hid h
  have HP := Lib.hid hp
  obtain ⟨A, c, rfl⟩ := h.form
  clear h hp
  obtain ⟨n, hn⟩ : ∃ n, Hid (n = qs.length) := ⟨_, Lib.hid rfl⟩
  rw [← hn.out] at hl ⊢
  go_enter Try.func24, Try.ntmps24
  go_wp2_with (at_make; refine wpList_make_full _ rfl _ _ _ rfl w.heap.size 62 i0 (.agg #[.slice none 0 0, .int .i64 0, .int .i64 0, .int .i64 0]) 4 Try.underlying33 hi hz0 hz1 _ _ _ _ n rfl rfl rfl rfl (by rw [hz2]; omega) (by unfold maxLen; omega) (Nat.le_refl _) ?_; intro w1 hown1 hg1)
  have hb1 : Below w.heap.size w w1 := (Below.refl _ _).grown hg1 (Nat.le_refl _) (by simp)
  have s1 : w.heap.size < w1.heap.size := (hown1.lt _ rfl).2
  have Q1 : Hid (OwnQ w1 w.heap.size w1.heap.size 62 2 (.slice (some ⟨w.heap.size, 0, none⟩) n n) (partQ qs 0) (madeCells #[Value.slice none 0 0, .int .i64 0, .int .i64 0, .int .i64 0] (n * 4)).toList) := Lib.hid (by
    rw [partQ_zero, ← hn.out]
    exact OwnQ.made hown1 s1)
  have B1 := Lib.hid hb1
  clear hown1 hg1 hb1
  go_wp2
  go_loopw [4] (fun i wr => ∃ (j : Nat) (us : List Value), j ≤ n ∧ i = .int .i64 j ∧ Hid (OwnQ wr w.heap.size wr.heap.size 62 2 (.slice (some ⟨w.heap.size, 0, none⟩) n n) (partQ qs j) us) ∧ Hid (Below w.heap.size w wr)) (fun i _ => n - (intOf i).toNat)
  case atStart => exact ⟨0, _, by omega, rfl, Q1, B1⟩
  case round =>
    clear Q1 B1
    obtain ⟨j, us', hj, rfl, ho, hb⟩ := hrel
    have wsz := hb.out.size
    by_cases hlt : j < n
    · have hlt' : j < qs.length := by rw [← hn.out]; exact hlt
      obtain ⟨b, off, cc, x1, e1, hbb, hc0, sx, hc1, hc2, hc3⟩ := (H.out.below hb.out hB).at_ j hlt'
      cases e1
      have PS := Lib.hid (partQ_step qs j hlt')
      have PL := Lib.hid (show n = (partQ qs j).length by rw [partQ_len qs j (by omega)]; exact hn.out)
      have pl := HP.out j hlt'
      obtain ⟨q, hq⟩ : ∃ q, Hid (q = nthQ qs j) := ⟨_, Lib.hid rfl⟩
      rw [← hq.out] at hc1 hc2 hc3 sx pl PS
      have CT := Lib.hid (toSequence_own x1 q wr B sx (by omega) (by omega))
      obtain ⟨A1, c1, rfl, _⟩ := sx
      have hc1' : wr.cell? ⟨b, off + j * 4 + 1, none⟩ = some (.int .i64 q.level) := hc1
      have hc2' : wr.cell? ⟨b, off + j * 4 + 2, none⟩ = some (.int .i64 q.sos) := hc2
      have hc3' : wr.cell? ⟨b, off + j * 4 + 3, none⟩ = some (.int .i64 q.eos) := hc3
      clear hc1 hc2 hc3
      go_wp2_with (first
        | (go_at_call 45; refine CT.out.mono ?_; rintro e w5 ⟨⟨u5, rfl, o5⟩, b5⟩
           obtain ⟨A5, c5, rfl⟩ := o5.form
           have Q5 := ho.out.below b5 (Nat.le_refl _)
           have pj : j < (partQ qs j).length := (by rw [← PL.out]; exact hlt)
           obtain ⟨g, cg, xg, eg, _, _, _, z0, _, _, z1, z2, z3, zf⟩ := Q5.at_ j pj
           injection eg with eg1 eg2 eg3
           injection eg1 with eg1
           injection eg1 with eg1
           subst eg1
           have zf0 := zf (j * 4)
           have zf1 := zf (j * 4 + 1)
           have zf2 := zf (j * 4 + 2)
           have zf3 := zf (j * 4 + 3)
           have QF := Lib.hid (Q5.fill PL.out (mid := wr.heap.size) (hi := w5.heap.size) b5.size wsz pj (q := q) o5)
           have B5 := Lib.hid (below_on hb.out b5 (Nat.le_refl _))
           clear Q5 o5 b5 zf eg2 eg3))
      have QN : Hid (OwnQ _ w.heap.size w5.heap.size 62 2 (.slice (some ⟨w.heap.size, 0, none⟩) n n) (partQ qs (j + 1)) _) := Lib.hid (by rw [← PS.out]; exact QF.out)
      have BN := Lib.hid ((((B5.out.setCell (p := ⟨w.heap.size, j * 4, none⟩) (Nat.le_refl _) (.slice A5 q.places.length c5)).setCell (p := ⟨w.heap.size, j * 4 + 1, none⟩) (Nat.le_refl _) (.int .i64 q.level)).setCell (p := ⟨w.heap.size, j * 4 + 2, none⟩) (Nat.le_refl _) (.int .i64 q.sos)).setCell (p := ⟨w.heap.size, j * 4 + 3, none⟩) (Nat.le_refl _) (.int .i64 q.eos))
      go_roundw
      case rel => exact ⟨j + 1, _, by omega, by go_num, Lib.hid (QN.out.more (Nat.le_refl _) (by simp)), BN⟩
      case measure => first | omega | (simp [intOf]; omega)
    · have ej : j = qs.length := by rw [← hn.out]; omega
      have QE := Lib.hid (show OwnQS wr w.heap.size wr.heap.size 62 2 (.slice (some ⟨w.heap.size, 0, none⟩) n n) qs from by
        have q := ho.out
        rw [ej, partQ_all] at q
        exact ⟨us', q⟩)
      clear ej ho
      go_wp2
      go_ret
      exact ⟨⟨_, rfl, QE.out⟩, hb.out⟩
set_option maxRecDepth 100000 in
set_option maxHeartbeats 400000 in
theorem szInt64S_any (A : Option Addr) (n c : Nat) (k : Int) (w : World) (hk : 0 ≤ k ∧ k ≤ 1048576) (hn : n ≤ 9223372036854775807) :
    Calls Try.prog 77 #[.slice A n c, .int .i64 k] w fun e w' => e = .returned (.int .i64 (if (n : Int) ≤ k then k - n else -1)) ∧ w = w' := by
  by_cases h : (n : Int) ≤ k
  · rw [if_pos h]
    go_enter Try.func77, Try.ntmps77
    go_wp2
    go_ret
    exact ⟨rfl, rfl⟩
  · rw [if_neg h]
    go_enter Try.func77, Try.ntmps77
    go_wp2
    go_ret
    exact ⟨rfl, rfl⟩
set_option maxRecDepth 100000 in
set_option maxHeartbeats 400000 in
theorem szSequence_any (A : Option Addr) (n c : Nat) (l s e : Int) (k : Int) (w : World) (hk : 0 ≤ k ∧ k ≤ 1048576) (hn : n ≤ 9223372036854775807) :
    Calls Try.prog 43 #[.agg #[.slice A n c, .int .i64 l, .int .i64 s, .int .i64 e], .int .i64 k] w fun x w' => x = .returned (.int .i64 (if (n : Int) ≤ k then k - n else -1)) ∧ Below w.heap.size w w' := by
  have b0 := (Below.refl w.heap.size w).alloc (Nat.le_refl _) (.cells #[.slice A n c, .int .i64 l, .int .i64 s, .int .i64 e] 66)
  by_cases h : (n : Int) ≤ k
  · have CT := Lib.hid (fun w => szInt64S_any A n c k w hk hn)
    rw [if_pos h] at CT ⊢
    have hnn : ¬ (k - (n : Int) < 0) := by omega
    go_enter Try.func43, Try.ntmps43
    go_wp2_with (go_at_call 77; refine (CT.out _).mono ?_; rintro e w' ⟨rfl, rfl⟩)
    go_ret
    exact ⟨rfl, b0⟩
  · have CT := Lib.hid (fun w => szInt64S_any A n c k w hk hn)
    rw [if_neg h] at CT ⊢
    go_enter Try.func43, Try.ntmps43
    go_wp2_with (go_at_call 77; refine (CT.out _).mono ?_; rintro e w' ⟨rfl, rfl⟩)
    go_ret
    exact ⟨rfl, b0⟩
end Go.Proofs.Ythhbikilighemaa
