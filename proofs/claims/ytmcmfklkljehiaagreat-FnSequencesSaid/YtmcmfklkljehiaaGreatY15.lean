/- The draws of chapter 4. -/
import Derived.Test.YtmcmfklkljehiaaGreatY14
import Derived.Test.YtmcmfklkljehiaaGreatY07
import Derived.Test.YtmcmfklkljehiaaGreatY13
namespace Go.Proofs.YtmcmfklkljehiaaGreat
open Go.RowKit

/-- what matches matches back -/
structure MInv (st : List Int × List Int) : Prop where
  back : ∀ p : Nat, p < st.1.length → nth st.1 p = -1 ∨ (0 ≤ nth st.1 p ∧ nth st.1 p < st.1.length ∧ nth st.1 p ≠ p ∧ nth st.1 (nth st.1 p).toNat = p)
  open_ : ∀ i, i < st.2.length → nth st.1 (nth st.2 i).toNat = -1
theorem nth_snoc (a : List Int) (z : Int) (k : Nat) (h : k < a.length + 1) : nth (a ++ [z]) k = if k = a.length then z else nth a k := by
  by_cases e : k = a.length
  · subst e; rw [nth_right, if_pos rfl]
  · rw [nth_left _ _ _ (by omega), if_neg e]
theorem MInv.step {st : List Int × List Int} (w : WfO st) (h : MInv st) (k : Int) : MInv (mstep st k) := by
  have plain : ∀ o : List Int, (∀ i, i < o.length → (0 ≤ nth o i ∧ nth o i ≤ st.1.length) ∧ ((nth o i).toNat = st.1.length ∨ nth st.1 (nth o i).toNat = -1)) → MInv (st.1 ++ [-1], o) := by
    intro o ho
    refine ⟨fun p hp => ?_, fun i hi => ?_⟩
    · simp only [List.length_append, List.length_cons, List.length_nil] at hp ⊢
      rw [nth_snoc _ _ _ (by omega)]
      by_cases e : p = st.1.length
      · rw [if_pos e]; exact .inl rfl
      · rw [if_neg e]
        rcases h.back p (by omega) with h1 | ⟨h1, h2, h3, h4⟩
        · exact .inl h1
        · refine .inr ⟨h1, by omega, h3, ?_⟩
          rw [nth_snoc _ _ _ (by omega), if_neg (by omega)]; exact h4
    · have := ho i hi
      show nth (st.1 ++ [-1]) (nth o i).toNat = -1
      rw [nth_snoc _ _ _ (by omega)]
      split
      · rfl
      · rcases this.2 with h1 | h1
        · omega
        · exact h1
  unfold mstep
  split
  · refine plain _ fun i hi => ?_
    simp only [List.length_append, List.length_cons, List.length_nil] at hi
    by_cases e : i < st.2.length
    · rw [nth_left _ _ _ e]
      have := w.lt i e
      exact ⟨by omega, .inr (h.open_ i e)⟩
    · obtain rfl : i = st.2.length := by omega
      rw [nth_right]
      exact ⟨by omega, .inl (by omega)⟩
  · split
    · rename_i h1 h2
      have lst := w.last h2.2
      obtain ⟨x, hx⟩ : ∃ x : Nat, lastOf st.2 = (x : Int) := ⟨(lastOf st.2).toNat, by omega⟩
      rw [hx] at lst ⊢
      have lx : x < st.1.length := by omega
      have ho := h.open_ (st.2.length - 1) (by omega)
      rw [show nth st.2 (st.2.length - 1) = lastOf st.2 from rfl, hx] at ho
      simp only [Int.toNat_natCast] at ho ⊢
      have get : ∀ q : Nat, q < st.1.length + 1 → nth (st.1.set x (st.1.length : Int) ++ [(x : Int)]) q = if q = st.1.length then (x : Int) else if x = q then (st.1.length : Int) else nth st.1 q := by
        intro q hq
        rw [nth_snoc _ _ _ (by simpa using hq), List.length_set]
        split
        · rfl
        · rw [nth_set _ _ _ _ lx]
      refine ⟨fun p hp => ?_, fun i hi => ?_⟩
      · simp only [List.length_append, List.length_cons, List.length_nil, List.length_set] at hp ⊢
        rw [get p (by omega)]
        by_cases e : p = st.1.length
        · rw [if_pos e]
          refine .inr ⟨by omega, by omega, by omega, ?_⟩
          simp only [Int.toNat_natCast]
          rw [get x (by omega), if_neg (by omega), if_pos rfl]
          omega
        · rw [if_neg e]
          by_cases e2 : x = p
          · rw [if_pos e2]
            refine .inr ⟨by omega, by omega, by omega, ?_⟩
            simp only [Int.toNat_natCast]
            rw [get _ (by omega), if_pos rfl, e2]
          · rw [if_neg e2]
            rcases h.back p (by omega) with g1 | ⟨g1, g2, g3, g4⟩
            · exact .inl g1
            · refine .inr ⟨g1, by omega, g3, ?_⟩
              rw [get _ (by omega), if_neg (by omega)]
              by_cases e3 : x = (nth st.1 p).toNat
              · rw [← e3] at g4; omega
              · rw [if_neg e3]; exact g4
      · simp only [List.length_dropLast] at hi
        rw [nth_dropLast _ _ (by omega)]
        have l1 := w.lt i (by omega)
        have l2 := w.rise i (st.2.length - 1) (by omega) (by omega)
        rw [show nth st.2 (st.2.length - 1) = lastOf st.2 from rfl, hx] at l2
        show nth (st.1.set x (st.1.length : Int) ++ [(x : Int)]) _ = -1
        rw [get _ (by omega), if_neg (by omega), if_neg (by omega)]
        exact h.open_ i (by omega)
    · exact plain _ fun i hi => ⟨by have := w.lt i hi; omega, .inr (h.open_ i hi)⟩
theorem foldl_inv : ∀ (l : List Int) (st : List Int × List Int), WfO st → MInv st → MInv (l.foldl mstep st)
  | [], _, _, h => h
  | k :: l, _, w, h => foldl_inv l _ (w.step k) (h.step w k)
theorem match_back (ks : List Int) (p : Nat) (hp : p < ks.length) : nth (matchN ks) p = -1 ∨ (0 ≤ nth (matchN ks) p ∧ nth (matchN ks) p < ks.length ∧ nth (matchN ks) p ≠ p ∧ nth (matchN ks) (nth (matchN ks) p).toNat = p) := by
  have h := foldl_inv ks ([], []) WfO.nil ⟨fun p hp => by simp at hp, fun i hi => by simp at hi⟩
  have := h.back p (by rw [show (ks.foldl mstep ([], [])).1 = matchN ks from rfl, matchN_len]; exact hp)
  rw [show (ks.foldl mstep ([], [])).1 = matchN ks from rfl, matchN_len] at this
  exact this

/-- the paragraphs are all that is no separator -/
def keepN (zs : List Int) : List Int := zs.filter fun c => classN c != 10
theorem pfold_kept : ∀ (zs : List Int) (s : PSt), (zs.foldl (pstep classN) s).paras.flatten ++ (zs.foldl (pstep classN) s).now = s.paras.flatten ++ s.now ++ keepN zs
  | [], s => by simp [keepN]
  | z :: zs, s => by
    rw [List.foldl_cons, pfold_kept zs]
    unfold pstep keepN
    rw [List.filter_cons]
    by_cases h1 : s.ahead = 13 ∧ z = 10
    · rw [if_pos h1, h1.2]
      simp [class_ten]
    · rw [if_neg h1]
      by_cases h2 : classN z = 10
      · rw [if_pos h2]; simp [h2]
      · rw [if_neg h2]; simp [h2]
theorem paras_kept (zs : List Int) : (parasN classN zs).flatten = keepN zs := by
  have := pfold_kept zs ⟨[], [], -1⟩
  simp only [List.flatten_nil, List.nil_append] at this
  unfold parasN
  split
  · rename_i h
    have e : (prun classN zs).now = [] := List.eq_nil_of_length_eq_zero h
    rw [← this]
    show _ = (prun classN zs).paras.flatten ++ (prun classN zs).now
    rw [e]; simp
  · rw [← this]; simp [prun]
theorem keepN_step (zs : List Int) (k : Nat) (h : k < zs.length) : keepN (zs.take (k + 1)) = keepN (zs.take k) ++ (if classN (nth zs k) != 10 then [nth zs k] else []) := by
  rw [take_nth zs k h]
  unfold keepN
  rw [List.filter_append, List.filter_cons]
  split <;> simp_all
theorem keepN_len (zs : List Int) : (keepN zs).length ≤ zs.length := List.length_filter_le _ _
theorem flat_step (zss : List (List Int)) (k : Nat) (h : k < zss.length) : (zss.take (k + 1)).flatten = (zss.take k).flatten ++ nthL zss k := by
  have e : zss.take (k + 1) = zss.take k ++ [nthL zss k] := by
    rw [List.take_succ_eq_append_getElem h]; simp [nthL, List.getElem?_eq_getElem h]
  rw [e]; simp
theorem flat_len (zss : List (List Int)) : zss.flatten.length = total zss := by simp [total, List.length_flatten]
def flatN (zss : List (List Int)) (k : Nat) : List Int := (zss.take k).flatten
theorem flatN_zero (zss : List (List Int)) : flatN zss 0 = [] := by simp [flatN]
theorem flatN_step (zss : List (List Int)) (k : Nat) (h : k < zss.length) : flatN zss (k + 1) = flatN zss k ++ nthL zss k := flat_step zss k h
theorem flatN_all (zss : List (List Int)) (k : Nat) (h : zss.length ≤ k) : flatN zss k = zss.flatten := by unfold flatN; rw [List.take_of_length_le h]
theorem flatN_len (zss : List (List Int)) (k : Nat) : (flatN zss k).length ≤ total zss := by
  unfold flatN
  conv => rhs; rw [← flat_len, ← List.take_append_drop k zss, List.flatten_append, List.length_append]
  omega
end Go.Proofs.YtmcmfklkljehiaaGreat

namespace Go.Proofs.YtmcmfklkljehiaaGreat
open Go.RowKit

theorem Drawn.two {a : Int} {l : List Int} (h : -1 ≤ a ∧ a ≤ 1114112) (k : Drawn l) : Drawn (a :: l) := fun t ht => by
  rcases List.mem_cons.1 ht with h1 | h1
  · rw [h1]; exact h
  · exact k t h1

set_option maxRecDepth 100000 in
set_option maxHeartbeats 4000000 in
theorem l4Para_any (g : Nat) (zs : List Int) (w : World) (hs : Src w g zs 0) (hb : ∀ b ∈ zs, isByte b) (hl : zs.length < 2000000) :
    Calls Tryz.prog 18 #[.pointer (some ⟨g, 0, none⟩)] w fun e w' => (∃ v b, e = .returned (.tuple #[v, .int .i64 b]) ∧ ∃ ts, Own w' w.heap.size w'.heap.size 2 .i64 v ts ∧ ts.length ≤ 700 ∧ Drawn ts ∧ -1 ≤ b ∧ b ≤ 2) ∧ Out g (g + 1) w w' := by
  obtain ⟨i0, hi, hz0, hz1, hz2⟩ := info_parts info_int64
  have HB := Lib.hid hb
  have HS := Lib.hid hs
  have gl := hs.lt
  have pr := Lib.hid ((by decide : ∀ y ∈ ([0, 1, 4, 9, 20, 30] : List Int), 0 ≤ y ∧ y ≤ 30) _ (pick_in [0, 1, 4, 9, 20, 30] zs 0 6 rfl (by omega)))
  clear hs hb
  go_enter Tryz.func18, Tryz.ntmps18
  go_wp2_with fail
  refine (l1Pick_any g w.heap.size 6 2 [0, 1, 4, 9, 20, 30] zs 0 _ (Blk.new w _ _) (by omega) rfl (by omega) (by omega) (HS.out.alloc _) HB.out hl (by omega)).mono ?_
  rintro e w1 ⟨rfl, hs1, o1⟩
  obtain ⟨E, hE⟩ : ∃ E : Nat, Hid (nth [0, 1, 4, 9, 20, 30] (nxt zs 0 ((6 : Nat) : Int)).toNat = (E : Int)) := ⟨(nth [0, 1, 4, 9, 20, 30] (nxt zs 0 ((6 : Nat) : Int)).toNat).toNat, Lib.hid (by have := pr.out; show _ = _; omega)⟩
  have er : E ≤ 30 := by have := pr.out; rw [hE.out] at this; omega
  rw [hE.out]
  have S1 := Lib.hid hs1
  have a1 : Out g (g + 1) w w1 := ((Out.refl _ _ w).alloc _).trans o1
  have z1 := o1.size
  rw [World.size_alloc] at z1
  clear hs1 o1 pr
  go_wp2_with fail
  refine (l1DrawText_any g zs _ E w1 S1.out HB.out hl (by omega)).mono ?_
  rintro e w2 ⟨⟨v2, rfl, ts, ot, lt, ht⟩, hs2, o2⟩
  obtain ⟨A2, c2, rfl⟩ := ot.form
  have S2 := Lib.hid hs2
  have OT := Lib.hid (ot.more (lo' := w.heap.size) (by omega) (Nat.le_refl _))
  have HT := Lib.hid (Drawn.chr ht)
  have a2 := a1.trans o2
  have z2 := o2.size
  have lt2 : ts.length ≤ 30 := by omega
  clear hs2 o2 ot a1 lt ht
  have n2 := nxt_range zs (0 + 1 + (E : Int)) 2 (by omega)
  obtain ⟨b, hbb⟩ : ∃ b : Int, Hid (nxt zs (0 + 1 + (E : Int)) 2 = b) := ⟨_, Lib.hid rfl⟩
  rw [hbb.out] at n2
  go_wp2_with fail
  refine (next_src g zs _ 2 w2 S2.out HB.out hl (by omega) (by omega)).mono ?_
  rintro e w3 ⟨rfl, hs3, o3⟩
  rw [hbb.out]
  have S3 := Lib.hid hs3
  have OT3 := Lib.hid (OT.out.out o3 (.inr (by omega)))
  have a3 := a2.trans o3
  have z3 := o3.size
  clear hs3 o3 OT a2
  have n24 := nxt_range zs (0 + 1 + (E : Int) + 1) 24 (by omega)
  obtain ⟨N, hN⟩ : ∃ N : Int, Hid (nxt zs (0 + 1 + (E : Int) + 1) 24 = N) := ⟨_, Lib.hid rfl⟩
  rw [hN.out] at n24
  go_wp2_with fail
  refine (next_src g zs _ 24 w3 S3.out HB.out hl (by omega) (by omega)).mono ?_
  rintro e w4 ⟨rfl, hs4, o4⟩
  rw [hN.out]
  have S4 := Lib.hid hs4
  have OT4 := Lib.hid (OT3.out.out o4 (.inr (by omega)))
  have a4 := a3.trans o4
  have z4 := o4.size
  clear hs4 o4 OT3 a3
  by_cases h0 : N = 0
  · have f0 : (N == 0) = true := by simp [h0]
    have pr := Lib.hid ((by decide : ∀ y ∈ ([-1, 2] : List Int), -1 ≤ y ∧ y ≤ 2) _ (pick_in [-1, 2] zs (0 + 1 + (E : Int) + 1 + 1) 2 rfl (by omega)))
    clear h0
    go_wp2_with fail
    refine (l1Pick_any g w4.heap.size 2 2 [-1, 2] zs _ _ (Blk.new w4 _ _) (by omega) rfl (by omega) (by omega) (S4.out.alloc _) HB.out hl (by omega)).mono ?_
    rintro e w5 ⟨rfl, hs5, o5⟩
    obtain ⟨D, hD⟩ : ∃ D : Int, Hid (nth [-1, 2] (nxt zs (0 + 1 + (E : Int) + 1 + 1) ((2 : Nat) : Int)).toNat = D) := ⟨_, Lib.hid rfl⟩
    rw [hD.out] at pr ⊢
    have a5 := Lib.hid ((a4.alloc (.cells #[.int .i64 (-1), .int .i64 2] 2)).trans o5)
    have z5 := o5.size
    rw [World.size_alloc] at z5
    have OT5 := Lib.hid ((OT4.out.alloc (.cells #[.int .i64 (-1), .int .i64 2] 2)).out o5 (.inr (by omega)))
    clear hs5 o5 OT4 a4
    go_wp2
    go_ret2
    exact ⟨⟨_, D, rfl, ts, OT5.out.more (Nat.le_refl _) (by omega), by omega, HT.out, pr.out.1, pr.out.2⟩, a5.out⟩
  · have f0 : (N == 0) = false := by simpa using h0
    by_cases h1 : N = 1
    · have f1 : (N == 1) = true := by simp [h1]
      have pr := Lib.hid ((by decide : ∀ y ∈ ([10, 8233, -1] : List Int), -1 ≤ y ∧ y ≤ 1114112) _ (pick_in [10, 8233, -1] zs (0 + 1 + (E : Int) + 1 + 1) 3 rfl (by omega)))
      clear h0 h1
      go_wp2_with fail
      refine (l1Pick_any g w4.heap.size 3 2 [10, 8233, -1] zs _ _ (Blk.new w4 _ _) (by omega) rfl (by omega) (by omega) (S4.out.alloc _) HB.out hl (by omega)).mono ?_
      rintro e w5 ⟨rfl, hs5, o5⟩
      obtain ⟨D, hD⟩ : ∃ D : Int, Hid (nth [10, 8233, -1] (nxt zs (0 + 1 + (E : Int) + 1 + 1) ((3 : Nat) : Int)).toNat = D) := ⟨_, Lib.hid rfl⟩
      rw [hD.out] at pr ⊢
      have S5 := Lib.hid hs5
      have a5 := (a4.alloc (.cells #[.int .i64 10, .int .i64 8233, .int .i64 (-1)] 2)).trans o5
      have z5 := o5.size
      rw [World.size_alloc] at z5
      have OT5 := Lib.hid ((OT4.out.alloc (.cells #[.int .i64 10, .int .i64 8233, .int .i64 (-1)] 2)).out o5 (.inr (by omega)))
      clear hs5 o5 OT4 a4
      go_wp2_with (at_builtin; refine wpList_app rfl _ _ _ rfl w.heap.size Tryz.underlying24 hi hz0 hz1 hz2 rfl (by omega) rfl (OT5.out.1.alloc _) rfl (Rd.lit w5 #[.int .i64 D] _) (m := 1) rfl (nums_one .i64 [D]) (by omega) (by omega) (by simp; omega) ?_; intro v' w6 o6 g6 a6; obtain ⟨A6, c6, rfl⟩ := own_form o6)
      have cl := grown_close (news := [D]) gl (OT5.out.1.alloc (.cells #[.int .i64 D] 2)) (S5.out.alloc _) (a5.alloc _) (by simpa [nums] using o6) rfl g6
      have CL := Lib.hid cl
      clear o6 g6 a6 cl
      go_ret2
      have ln : ts.length + 1 = (ts ++ [D]).length := by simp
      exact ⟨⟨_, b, rfl, ts ++ [D], Own.mk_ (n := ts.length + 1) (by have := CL.out.1; rwa [← ln] at this) ln, by simp; omega, HT.out.app (Drawn.one pr.out), by omega, by omega⟩, CL.out.2.2⟩
    · have f1 : (N == 1) = false := by simpa using h1
      by_cases h2 : N = 2
      · have f2 : (N == 2) = true := by simp [h2]
        have pr := Lib.hid ((by decide : ∀ y ∈ ([60, 62, 63, 64, 126] : List Int), 0 ≤ y ∧ y ≤ 126) _ (pick_in [60, 62, 63, 64, 126] zs (0 + 1 + (E : Int) + 1 + 1) 5 rfl (by omega)))
        clear h0 h1 h2 OT4 HT
        have od := Lib.hid (own_more (own_new w4 2 #[] 0 rfl (by omega)) (base' := w.heap.size) (by omega))
        have ad := a4.alloc (.cells #[] 2)
        have sd := S4.out.alloc (.cells #[] 2)
        go_wp2_with fail
        refine (l1Pick_any g (w4.heap.size + 1) 5 2 [60, 62, 63, 64, 126] zs _ _ (by have := Blk.new (w4.alloc (.cells #[] 2)) 2 (Array.mk (nums .i64 [60, 62, 63, 64, 126])); rw [World.size_alloc] at this; exact this) (by omega) rfl (by omega) (by omega) (sd.alloc _) HB.out hl (by omega)).mono ?_
        rintro e w5 ⟨rfl, hs5, o5⟩
        obtain ⟨M, hM⟩ : ∃ M : Nat, Hid (nth [60, 62, 63, 64, 126] (nxt zs (0 + 1 + (E : Int) + 1 + 1) ((5 : Nat) : Int)).toNat = (M : Int)) := ⟨(nth [60, 62, 63, 64, 126] (nxt zs (0 + 1 + (E : Int) + 1 + 1) ((5 : Nat) : Int)).toNat).toNat, Lib.hid (by have := pr.out; show _ = _; omega)⟩
        have mr : M ≤ 126 := by have := pr.out; rw [hM.out] at this; omega
        rw [hM.out]
        have S5 := Lib.hid hs5
        have A5 := Lib.hid ((ad.alloc (.cells (Array.mk (nums .i64 [60, 62, 63, 64, 126])) 2)).trans o5)
        have z5 := o5.size
        rw [World.size_alloc, World.size_alloc] at z5
        have OD := Lib.hid (show w5.ownsRow w.heap.size 2 1 (.slice (some ⟨w4.heap.size, 0, none⟩) 0 0) ([] : List Int).length (nums .i64 []) from
          (Own.out (hi := w4.heap.size + 1) (lo := w.heap.size) (kd := .i64) (zs := []) ⟨od.out.alloc _, fun x hx => by { have e : some w4.heap.size = some x := hx; injection e with e; omega }⟩ o5 (.inr (by omega))).1)
        clear hs5 o5 pr ad sd od a4 S4
        go_wp2
        go_loopw [6, 7] (fun v i wr => ∃ (j : Nat) (ds : List Int), j ≤ M ∧ i = .int .i64 j ∧ ds.length + j = M ∧ Hid (Drawn ds) ∧ Hid (wr.ownsRow w.heap.size 2 1 v ds.length (nums .i64 ds)) ∧ Hid (Src wr g zs (0 + 1 + (E : Int) + 1 + 1 + 1 + (ds.length : Int))) ∧ Hid (Out g (g + 1) w wr) ∧ w5.heap.size ≤ wr.heap.size) (fun _ i _ => (intOf i).toNat)
        case atStart => exact ⟨M, [], by omega, rfl, by simp, Lib.hid (fun t ht => by simp at ht), OD, Lib.hid (by simpa using S5.out), A5, by omega⟩
        case round =>
          clear OD S5 A5
          obtain ⟨j, ds, hj, rfl, hdj, hdr, hro, hsr, hor, hsz⟩ := hrel
          by_cases hj0 : 0 < j
          · have pr := Lib.hid ((by decide : ∀ y ∈ ([8235, 8234, 8294, 8295] : List Int), -1 ≤ y ∧ y ≤ 1114112) _ (pick_in [8235, 8234, 8294, 8295] zs (0 + 1 + (E : Int) + 1 + 1 + 1 + (ds.length : Int)) 4 rfl (by omega)))
            obtain ⟨AD, cD, rfl⟩ := own_form hro.out
            go_wp2_with fail
            refine (l1Pick_any g wr.heap.size 4 2 [8235, 8234, 8294, 8295] zs _ _ (Blk.new wr _ _) (by omega) rfl (by omega) (by omega) (hsr.out.alloc _) HB.out hl (by omega)).mono ?_
            rintro e w6 ⟨rfl, hs6, o6⟩
            obtain ⟨D, hD⟩ : ∃ D : Int, Hid (nth [8235, 8234, 8294, 8295] (nxt zs (0 + 1 + (E : Int) + 1 + 1 + 1 + (ds.length : Int)) ((4 : Nat) : Int)).toNat = D) := ⟨_, Lib.hid rfl⟩
            rw [hD.out] at pr ⊢
            have S6 := Lib.hid hs6
            have a6 := (hor.out.alloc (.cells #[.int .i64 8235, .int .i64 8234, .int .i64 8294, .int .i64 8295] 2)).trans o6
            have z6 := o6.size
            rw [World.size_alloc] at z6
            have OD6 := Lib.hid ((Own.out (hi := wr.heap.size) (kd := .i64) (zs := ds) ⟨hro.out.alloc (.cells #[.int .i64 8235, .int .i64 8234, .int .i64 8294, .int .i64 8295] 2), fun x hx => (hro.out.lt x hx).2⟩ o6 (.inr (by omega))).1)
            have dl : ds.length ≤ 126 := by omega
            clear hs6 o6 hro hsr hor
            go_wp2_with (at_builtin; refine wpList_app rfl _ _ _ rfl w.heap.size Tryz.underlying24 hi hz0 hz1 hz2 rfl (by omega) rfl (OD6.out.alloc _) rfl (Rd.lit w6 #[.int .i64 D] _) (m := 1) rfl (nums_one .i64 [D]) (by omega) (by omega) (by simp; omega) ?_; intro v' w7 o7 g7 a7; obtain ⟨A7, c7, rfl⟩ := own_form o7)
            have cl := grown_close (news := [D]) gl (OD6.out.alloc (.cells #[.int .i64 D] 2)) (S6.out.alloc _) (a6.alloc _) (by simpa [nums] using o7) rfl g7
            have C1 := Lib.hid cl.1
            have C2 : Hid (Src w7 g zs (0 + 1 + (E : Int) + 1 + 1 + 1 + ((ds ++ [D]).length : Int))) := Lib.hid (by have := cl.2.1; rw [List.length_append]; simpa [Int.add_assoc] using this)
            have C3 := Lib.hid cl.2.2
            have DD := Lib.hid (hdr.out.app (Drawn.one pr.out))
            have s7 : w5.heap.size ≤ w7.heap.size := by have := g7.size; rw [World.size_alloc] at this; omega
            have dl2 : (ds ++ [D]).length = ds.length + 1 := by simp
            have DL2 := Lib.hid dl2
            have C1' : Hid (w7.ownsRow w.heap.size 2 1 (.slice A7 (ds.length + 1) c7) (ds ++ [D]).length (nums .i64 (ds ++ [D]))) := C1
            clear o7 g7 a7 cl dl2 C1 a6
            go_wp2
            go_roundw
            case rel => exact ⟨j - 1, ds ++ [D], by omega, by go_num, by rw [DL2.out]; omega, DD, C1', C2, C3, s7⟩
            case measure => first | omega | (simp [intOf]; omega)
          · have hj00 : j = 0 := by omega
            subst hj00
            obtain ⟨AD, cD, rfl⟩ := own_form hro.out
            have dl : ds.length ≤ 126 := by omega
            go_wp2_with fail
            refine (l1DrawText_any g zs _ 6 wr hsr.out HB.out hl (by omega)).mono ?_
            rintro e w6 ⟨⟨v6, rfl, t6, ot, lt6, ht⟩, hs6, o6⟩
            obtain ⟨A6, c6, rfl⟩ := ot.form
            have S6 := Lib.hid hs6
            have a6 := hor.out.trans o6
            have z6 := o6.size
            have R6 := Lib.hid (Rd.of ot.1)
            have HT6 := Lib.hid (Drawn.chr ht)
            have OD6 := Lib.hid ((Own.out (hi := wr.heap.size) (kd := .i64) (zs := ds) ⟨hro.out, fun x hx => (hro.out.lt x hx).2⟩ o6 (.inr (by omega))).1)
            have LT6 : Hid (t6.length = 6) := Lib.hid lt6
            rw [lt6]
            clear hs6 o6 ot lt6 ht hro hsr hor
            have tok1 : True := trivial
            go_wp2_with (first
              | (at_builtin; have _t := tok1; refine wpList_app rfl _ _ _ rfl w.heap.size Tryz.underlying24 hi hz0 hz1 hz2 rfl (by omega) rfl OD6.out rfl R6.out (m := 6) (by rw [nums_length, LT6.out]) (nums_one .i64 t6) (by omega) (by omega) (by omega) ?_; intro v' w7 o7 g7 a7; clear tok1; obtain ⟨A7, c7, rfl⟩ := own_form o7; have CL := Lib.hid (grown_close (news := t6) gl OD6.out S6.out a6 o7 LT6.out g7); have s7 := g7.size; have O7 := Lib.hid o7; have LL7 : Hid ((ds ++ t6).length = ds.length + 6) := Lib.hid (by rw [List.length_append, LT6.out]); clear o7 g7 a7)
              | (at_builtin; refine wpList_app rfl _ _ _ rfl w.heap.size Tryz.underlying24 hi hz0 hz1 hz2 rfl (by omega) rfl (O7.out.alloc _) rfl (Rd.lit w7 #[.int .i64 8236, .int .i64 8297, .int .i64 97, .int .i64 1488] _) (m := 4) rfl (nums_one .i64 [8236, 8297, 97, 1488]) (by omega) (by omega) (by simp; omega) ?_; intro v' w8 o8 g8 a8; obtain ⟨A8, c8, rfl⟩ := own_form o8))
            have C0 := CL.out.1
            rw [LL7.out] at C0
            have cl := grown_close (news := [8236, 8297, 97, 1488]) (ts := ds ++ t6) (m := 4) (v' := .slice A8 (ds.length + 6 + 4) c8) gl (by rw [LL7.out]; exact C0.alloc (.cells #[.int .i64 8236, .int .i64 8297, .int .i64 97, .int .i64 1488] 2)) (CL.out.2.1.alloc _) (CL.out.2.2.alloc _) (by rw [LL7.out]; simpa [nums, List.append_assoc] using o8) rfl g8
            have CL2 := Lib.hid cl
            have DD := Lib.hid ((hdr.out.app HT6.out).app (Drawn.two (a := 8236) (by omega) (Drawn.two (a := 8297) (by omega) (Drawn.two (a := 97) (by omega) (Drawn.one (x := 1488) (by omega))))))
            clear o8 g8 a8 cl C0
            go_wp2
            go_ret2
            have ln : ds.length + 6 + 4 = (ds ++ t6 ++ [8236, 8297, 97, 1488]).length := by rw [List.length_append, LL7.out]; rfl
            exact ⟨⟨_, b, rfl, ds ++ t6 ++ [8236, 8297, 97, 1488], Own.mk_ (n := ds.length + 6 + 4) (by have := CL2.out.1; rwa [← ln] at this) ln, by rw [← ln]; omega, DD.out, by omega, by omega⟩, CL2.out.2.2⟩
      · have f2 : (N == 2) = false := by simpa using h2
        have A4 := Lib.hid a4
        clear h0 h1 h2 a4
        go_wp2
        go_ret2
        exact ⟨⟨_, b, rfl, ts, OT4.out.more (Nat.le_refl _) (by omega), by omega, HT.out, by omega, by omega⟩, A4.out⟩
end Go.Proofs.YtmcmfklkljehiaaGreat
