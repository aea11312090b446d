/- Chapter 3: the model's paragraphs. -/
import Derived.Test.YtcfnhjpmihngdaaGreatY02
import Derived.Test.YtcfnhjpmihngdaaGreatY14
import Derived.Test.YtcfnhjpmihngdaaGreatY06
import Derived.WalkSmall
namespace Go.Proofs.YtcfnhjpmihngdaaGreat
open Go.RowKit Go.Maps

theorem own_pop1 {w : World} {base m cap g : Nat} {e : TypeId} {kd : IntKind} {ys : List Int} (h : w.ownsRow base e 1 (.slice (some ⟨g, 0, none⟩) (m + 1) cap) (m + 1) (nums kd ys)) : w.ownsRow base e 1 (.slice (some ⟨g, 0, none⟩) m cap) m (nums kd ys.dropLast) := by
  have hl : ys.length = m + 1 := by have := h.1; simpa [nums] using this
  have e1 : ys = ys.dropLast ++ [nth ys m] := by
    have h0 : ys ≠ [] := by intro e; subst e; simp at hl
    have := List.dropLast_concat_getLast h0
    have e2 : ys.getLast h0 = nth ys m := by
      rw [List.getLast_eq_getElem]; simp [nth, hl]
    rw [e2] at this
    exact this.symm
  refine ownsRow_pop (n := m) (xs := nums kd ys.dropLast) (last := nums kd [nth ys m]) (by simp [nums, hl]) ?_
  rw [← nums_app, ← e1]
  exact h
theorem rep_set (a : List Int) (n k : Nat) (x y : Int) (hk : a.length = k) (hn : k < n) : (a ++ List.replicate (n - k) x).set k y = (a ++ [y]) ++ List.replicate (n - (k + 1)) x := by
  have e : n - k = (n - (k + 1)) + 1 := by omega
  rw [e, List.replicate_succ, List.set_append, if_neg (by omega), hk, Nat.sub_self]
  simp
theorem rep_set_left (a : List Int) (n k j : Nat) (x y : Int) (hj : j < a.length) : (a ++ List.replicate (n - k) x).set j y = (a.set j y) ++ List.replicate (n - k) x := by
  rw [List.set_append, if_pos hj]

theorem info_int : (Tryz.prog.info? 3).map (fun i => (i.zero, i.size, i.bytes)) = some (some (.int .i64 0), 1, 8) := by kernel_rfl

set_option maxRecDepth 100000 in
set_option maxHeartbeats 1000000 in
theorem l3Matches_any (A : Option Addr) (zs : List Int) (c : Nat) (w : World) (h1 : Rd w w.heap.size A (nums .i64 zs)) (hl : zs.length ≤ 600) (hz : zs.all chrB = true) :
    Calls Tryz.prog 23 #[.slice A zs.length c] w fun e w' => (∃ v, e = .returned v ∧ Own w' w.heap.size w'.heap.size 2 .i64 v (matchN (classesN zs))) ∧ Below w.heap.size w w' := by
  obtain ⟨i0, hi, hz0, hz1, hz2⟩ := info_parts info_int64
  obtain ⟨i1, ki, kz0, kz1, kz2⟩ := info_parts info_int
  have H1 := Lib.hid h1
  have HZ := Lib.hid hz
  clear h1 hz
  obtain ⟨ks, hks⟩ : ∃ ks, Hid (ks = classesN zs) := ⟨_, Lib.hid rfl⟩
  rw [← hks.out]
  have hkl : ks.length = zs.length := by rw [hks.out, classesN_len]
  have HKL := Lib.hid hkl
  clear hkl
  obtain ⟨n, hn⟩ : ∃ n, Hid (n = zs.length) := ⟨_, Lib.hid rfl⟩
  rw [← hn.out] at hl ⊢
  go_enter Tryz.func23, Tryz.ntmps23
  go_wp2_with (at_make; refine wpList_make_full _ rfl _ _ _ rfl w.heap.size 2 i0 (.int .i64 0) 1 Tryz.underlying22 hi hz0 hz1 _ _ _ _ n rfl rfl rfl rfl (by rw [hz2]; omega) (by unfold maxLen; omega) (Nat.le_refl _) ?_; intro w1 hown1 hg1)
  have hb1 : Below w.heap.size w w1 := (Below.refl _ _).grown hg1 (Nat.le_refl _) (by simp)
  have s1 : w.heap.size < w1.heap.size := (hown1.lt _ rfl).2
  have O1 : Hid ((w1.alloc (.cells #[] 3)).ownsRow w.heap.size 2 1 (.slice (some ⟨w.heap.size, 0, none⟩) n n) n (nums .i64 ((mrun (ks.take 0)).1 ++ List.replicate (n - 0) 0))) := Lib.hid (by
    have := hown1.alloc (.cells #[] 3)
    rw [show n * 1 = n by omega, show (Value.int .i64 0).cells = #[.int .i64 0] from rfl, toList_madeCells_one] at this
    have e : nums .i64 ((mrun (ks.take 0)).1 ++ List.replicate (n - 0) 0) = List.replicate n (Value.int .i64 0) := by simp [mrun, nums]
    rw [e]; exact this)
  have P1 : Hid ((w1.alloc (.cells #[] 3)).ownsRow (w.heap.size + 1) 3 1 (.slice (some ⟨w1.heap.size, 0, none⟩) 0 0) (mrun (ks.take 0)).2.length (nums .i64 (mrun (ks.take 0)).2)) := Lib.hid (own_more (own_new w1 3 #[] 0 rfl (by omega)) (by omega))
  have B1 := Lib.hid (hb1.alloc (Nat.le_of_lt s1) (.cells #[] 3))
  clear hown1 hg1 hb1
  go_wp2
  go_loopw [4, 5] (fun v i wr => ∃ k : Nat, k ≤ n ∧ i = .int .i64 k ∧ Hid (wr.ownsRow w.heap.size 2 1 (.slice (some ⟨w.heap.size, 0, none⟩) n n) n (nums .i64 ((mrun (ks.take k)).1 ++ List.replicate (n - k) 0))) ∧
    Hid (wr.ownsRow (w.heap.size + 1) 3 1 v (mrun (ks.take k)).2.length (nums .i64 (mrun (ks.take k)).2)) ∧ Hid (Below w.heap.size w wr)) (fun _ i _ => n - (intOf i).toNat)
  case atStart => exact ⟨0, by omega, rfl, O1, P1, B1⟩
  case round =>
    clear O1 P1 B1
    obtain ⟨k, hk, rfl, ho, hp, hbr⟩ := hrel
    by_cases hlt : k < n
    · have LT : k < zs.length := by rw [← hn.out]; exact hlt
      obtain ⟨b, off, rfl, hb, hc⟩ := (H1.out.below hbr.out (Nat.le_refl _)).int (by omega)
      have hc0 := hc k LT
      have HC0 := Lib.hid hc0
      have hsz := (ho.out.lt _ rfl).2
      have hch := chr_nth zs HZ.out k LT
      have hz1' : 0 ≤ nth zs k := by simp only [chrB, decide_eq_true_eq] at hch; omega
      have hcl := fun w => l2Class_any (nth zs k) w hz1'
      have hq0 : classN (nth zs k) = nth ks k := by rw [hks.out, classesN_nth zs k LT]
      have hstep := mrun_step ks k (by rw [HKL.out]; exact LT)
      rw [hq0] at hcl
      have HCL := Lib.hid hcl
      clear hc hcl hq0 hch hz1'
      obtain ⟨z, hzz⟩ : ∃ z, Hid (z = nth zs k) := ⟨_, Lib.hid rfl⟩
      rw [← hzz.out] at hc0 HC0 HCL
      obtain ⟨q, hq⟩ : ∃ q, Hid (q = nth ks k) := ⟨_, Lib.hid rfl⟩
      rw [← hq.out] at HCL hstep
      have hml : (mrun (ks.take k)).1.length = k := by rw [mrun_len, List.length_take, HKL.out]; omega
      have hol : (mrun (ks.take k)).2.length ≤ k := by have := mrun_open (ks.take k); rw [List.length_take] at this; omega
      have wfo := mrun_wf (ks.take k)
      obtain ⟨M, hM⟩ : ∃ M, Hid (M = mrun (ks.take k)) := ⟨_, Lib.hid rfl⟩
      rw [← hM.out] at hstep hml hol wfo ho hp
      have HST := Lib.hid hstep
      have HML := Lib.hid hml
      have WF := Lib.hid wfo
      clear hstep hml wfo LT
      -- the mark of none
      go_wp2_with (refine wpList_put rfl _ _ _ rfl i0 hi hz1 k (.int .i64 (-1)) rfl rfl rfl ho.out hlt ?_; intro w2 o2 g2; have hc2 : w2.cell? ⟨b, off + k, none⟩ = some (.int .i64 z) := g2.cell HC0.out (by simp; omega); clear ho hc0)
      have O2 := Lib.hid (show w2.ownsRow w.heap.size 2 1 (.slice (some ⟨w.heap.size, 0, none⟩) n n) n (nums .i64 ((M.1 ++ [-1]) ++ List.replicate (n - (k + 1)) 0)) by
        rw [← rep_set M.1 n k 0 (-1) HML.out hlt]; exact own_set o2)
      have P2 := Lib.hid (hp.out.kept g2 (own_apart hp.out (by omega)))
      have B2 := Lib.hid (hbr.out.grown g2 hbr.out.size (fun g hg => by injection hg with hg; omega))
      have hsz2 := (O2.out.lt _ rfl).2
      clear o2 g2 hp hbr hc2
      refine (HCL.out _).mono ?_
      rintro e w' ⟨rfl, rfl⟩
      go_wp2_with fail
      refine (l3Opens_any _ _).mono ?_
      rintro e w' ⟨rfl, rfl⟩
      by_cases hop : isOp q
      · have hob : opB q = true := by unfold opB; exact decide_eq_true hop
        have hne : (q == 22) = false := by unfold isOp at hop; simp; omega
        have E1 := Lib.hid (show mrun (ks.take (k + 1)) = (M.1 ++ [-1], M.2 ++ [(k : Int)]) by rw [HST.out]; unfold mstep; rw [if_pos hop, HML.out])
        rw [hob]
        clear hob hop
        go_wp2_with (at_builtin; go_loud (refine wpList_app rfl _ _ _ rfl (w.heap.size + 1) Tryz.underlying78 ki kz0 kz1 kz2 rfl (by omega) rfl (P2.out.alloc _) rfl (Rd.lit w2 #[.int .i64 k] _) (m := 1) rfl (nums_one .i64 [(k : Int)]) (by omega) (by omega) (by simp; omega) ?_); intro v' w5 o5 g5 a5; obtain ⟨A5, c5, rfl⟩ := own_form o5)
        have gg : w2.grownBy w5 _ := (World.grownBy_alloc w2 _ _).trans g5
        have notO : ∀ b, Value.ownBlock _ = some b → w.heap.size + 1 ≤ b := fun b hb => (P2.out.lt b hb).1
        have P5 : Hid (w5.ownsRow (w.heap.size + 1) 3 1 (.slice A5 (M.2.length + 1) c5) (mrun (ks.take (k + 1))).2.length (nums .i64 (mrun (ks.take (k + 1))).2)) := Lib.hid (by rw [E1.out]; exact own_app1 o5 rfl)
        have O5 : Hid (w5.ownsRow w.heap.size 2 1 (.slice (some ⟨w.heap.size, 0, none⟩) n n) n (nums .i64 ((mrun (ks.take (k + 1))).1 ++ List.replicate (n - (k + 1)) 0))) := Lib.hid (by
          rw [E1.out]; exact O2.out.kept gg (.inr fun e => by have : w.heap.size + 1 ≤ w.heap.size := notO _ e.symm; omega))
        have B5 := Lib.hid (B2.out.grown gg B2.out.size (fun b hb => by have := notO b hb; omega))
        clear o5 g5 a5 gg notO
        go_roundw
        case rel => exact ⟨k + 1, by omega, by go_num, O5, P5, B5⟩
        case measure => first | omega | (simp [intOf]; omega)
      · have hob : opB q = false := by unfold opB; exact decide_eq_false hop
        rw [hob]
        clear hob
        by_cases h22 : q = 22 ∧ 0 < M.2.length
        · obtain ⟨h22, h0⟩ := h22
          have E1 := Lib.hid (show mrun (ks.take (k + 1)) = (M.1.set (lastOf M.2).toNat (k : Int) ++ [lastOf M.2], M.2.dropLast) by rw [HST.out]; unfold mstep; rw [if_neg hop, if_pos ⟨h22, h0⟩, HML.out])
          have hqe : (q == 22) = true := by simp [h22]
          clear hop
          obtain ⟨m, hm⟩ : ∃ m, Hid (M.2.length = m + 1) := ⟨M.2.length - 1, Lib.hid (by show M.2.length = _; omega)⟩
          have lst := WF.out.last h0
          rw [HML.out] at lst
          obtain ⟨x, hx⟩ : ∃ x : Nat, Hid (lastOf M.2 = (x : Int)) := ⟨(lastOf M.2).toNat, Lib.hid (by show lastOf M.2 = _; omega)⟩
          rw [hx.out] at lst E1
          have lx : x < k := by omega
          have P3 := P2
          rw [hm.out] at P3
          obtain ⟨g', c', rfl, hgb⟩ := own_addr P3.out (by omega)
          have cp := own_cap P3.out
          have hcl := own_cell P3.out m (by omega)
          rw [show nth M.2 m = lastOf M.2 by unfold lastOf; rw [hm.out]; rfl, hx.out] at hcl
          have HCL2 := Lib.hid hcl
          have xt : ((x : Nat) : Int).toNat = x := by omega
          have E2 := Lib.hid (match_lists M.1 k x (n - (k + 1)) HML.out lx)
          rw [xt] at E1
          have hmb : m < 600 := by have := hm.out; omega
          clear lst xt h22 h0 hol
          have tok1 : True := trivial
          go_wp2_with (first
            | (have _t := tok1; refine wpList_put rfl _ _ _ rfl i0 hi hz1 k (.int .i64 x) rfl rfl rfl O2.out hlt ?_; intro w3 o3 g3; have hc3 : w3.cell? ⟨g', m, none⟩ = some (.int .i64 x) := g3.cell HCL2.out (by simp; omega); clear tok1 hcl)
            | (refine wpList_put rfl _ _ _ rfl i0 hi hz1 x (.int .i64 k) rfl rfl rfl o3 (by omega) ?_; intro w4 o4 g4))
          have O4 : Hid (w4.ownsRow w.heap.size 2 1 (.slice (some ⟨w.heap.size, 0, none⟩) n n) n (nums .i64 ((mrun (ks.take (k + 1))).1 ++ List.replicate (n - (k + 1)) 0))) := Lib.hid (by
            rw [E1.out]
            show w4.ownsRow _ _ _ _ _ (nums .i64 ((M.1.set x (k : Int) ++ [(x : Int)]) ++ List.replicate (n - (k + 1)) 0))
            rw [← E2.out]
            have := own_set (ys := (M.1 ++ [-1] ++ List.replicate (n - (k + 1)) 0).set k (x : Int)) (j := x) (z := (k : Int)) (by rw [← nums_set]; exact o4)
            exact this)
          have gg := g3.trans g4
          have P5 : Hid (w4.ownsRow (w.heap.size + 1) 3 1 (.slice (some ⟨g', 0, none⟩) m c') (mrun (ks.take (k + 1))).2.length (nums .i64 (mrun (ks.take (k + 1))).2)) := Lib.hid (by
            rw [E1.out]
            have := own_pop1 (P3.out.kept gg (.inr (by simp [Value.ownBlock]; omega)))
            have el : M.2.dropLast.length = m := by rw [List.length_dropLast, hm.out]; omega
            show w4.ownsRow _ _ _ _ M.2.dropLast.length (nums .i64 M.2.dropLast)
            rw [el]; exact this)
          have B5 := Lib.hid (B2.out.grown gg B2.out.size (fun b hb => by injection hb with hb; omega))
          clear o3 o4 g3 g4 gg
          go_roundw
          case rel => exact ⟨k + 1, by omega, by go_num, O4, P5, B5⟩
          case measure => first | omega | (simp [intOf]; omega)
        · have E1 := Lib.hid (show mrun (ks.take (k + 1)) = (M.1 ++ [-1], M.2) by rw [HST.out]; unfold mstep; rw [if_neg hop, if_neg h22])
          have O5 : Hid (w2.ownsRow w.heap.size 2 1 (.slice (some ⟨w.heap.size, 0, none⟩) n n) n (nums .i64 ((mrun (ks.take (k + 1))).1 ++ List.replicate (n - (k + 1)) 0))) := Lib.hid (by rw [E1.out]; exact O2.out)
          have P5 := P2
          rw [show M.2 = (mrun (ks.take (k + 1))).2 by rw [E1.out]] at P5
          obtain ⟨A5, c5, rfl⟩ := own_form P2.out
          by_cases hq2 : q = 22
          · have hqe : (q == 22) = true := by simp [hq2]
            have h0 : M.2.length = 0 := by omega
            have H0 := Lib.hid h0
            have e0 : ((M.2.length : Nat) : Int) = 0 := by omega
            clear hop h22 hq2 h0
            go_wp2
            go_roundw
            case rel => exact ⟨k + 1, by omega, by go_num, O5, P5, B2⟩
            case measure => first | omega | (simp [intOf]; omega)
          · have hqe : (q == 22) = false := by simpa using hq2
            clear hop h22 hq2
            go_wp2
            go_roundw
            case rel => exact ⟨k + 1, by omega, by go_num, O5, P5, B2⟩
            case measure => first | omega | (simp [intOf]; omega)
    · have e : ks.take k = ks := List.take_of_length_le (by rw [HKL.out, ← hn.out]; omega)
      have e2 : n - k = 0 := by omega
      rw [e, e2, List.replicate_zero, List.append_nil] at ho
      have hml : (mrun ks).1.length = n := by rw [mrun_len, HKL.out, ← hn.out]
      have HO := Lib.hid (show Own wr w.heap.size wr.heap.size 2 .i64 (.slice (some ⟨w.heap.size, 0, none⟩) n n) (matchN ks) from Own.mk_ ho.out hml.symm)
      obtain ⟨A5, c5, rfl⟩ := own_form hp.out
      clear e e2 hml
      go_wp2
      go_ret
      exact ⟨⟨_, rfl, HO.out⟩, hbr.out⟩

/-- what MatchesOf answers -/
def matL (zs : List Int) : List Int := if textF zs = 0 then matchN (classesN zs) else []
theorem matL_len (zs : List Int) : (matL zs).length ≤ 600 := by
  unfold matL
  split
  · rw [matchN_len, classesN_len]; exact (textF_zero (by assumption)).1
  · simp

set_option maxRecDepth 100000 in
set_option maxHeartbeats 1000000 in
theorem l3Base_any (A Am : Option Addr) (zs : List Int) (c cm : Nat) (w : World) (B B' : Nat) (h1 : Rd w B A (nums .i64 zs)) (h2 : Rd w B' Am (nums .i64 (matchN (classesN zs)))) (hl : zs.length ≤ 600) (hz : zs.all chrB = true) (fr to : Nat) (hf : fr ≤ zs.length) (ht : to ≤ zs.length) :
    Calls Tryz.prog 46 #[.slice A zs.length c, .slice Am zs.length cm, .int .i64 fr, .int .i64 to] w fun e w' => e = .returned (.int .i64 (baseG 0 (((classesN zs).take to).drop fr))) ∧ w = w' := by
  have H1 := Lib.hid h1
  have H2 := Lib.hid h2
  have HZ := Lib.hid hz
  clear h1 h2 hz
  obtain ⟨ks, hks⟩ : ∃ ks, Hid (ks = classesN zs) := ⟨_, Lib.hid rfl⟩
  rw [← hks.out] at H2 ⊢
  have hkl : ks.length = zs.length := by rw [hks.out, classesN_len]
  have HKL := Lib.hid hkl
  clear hkl
  obtain ⟨ans, hans⟩ : ∃ x, Hid (x = baseG 0 ((ks.take to).drop fr)) := ⟨_, Lib.hid rfl⟩
  rw [← hans.out]
  go_enter Tryz.func46, Tryz.ntmps46
  go_wp2
  go_loop [9] (fun i => ∃ k : Nat, k ≤ zs.length ∧ i = .int .i64 k ∧ Hid (ans = baseG 0 ((ks.take to).drop k))) (fun i => zs.length + 1 - (intOf i).toNat)
  case atStart => exact ⟨fr, hf, rfl, hans⟩
  case round =>
    obtain ⟨k, hk, rfl, hs⟩ := hrel
    by_cases hlt : k < to
    · have LT : k < zs.length := by omega
      obtain ⟨b, off, rfl, hb, hc⟩ := H1.out.int (by omega)
      have hc0 := hc k LT
      clear hc
      have hch := chr_nth zs HZ.out k LT
      have hz1' : 0 ≤ nth zs k := by simp only [chrB, decide_eq_true_eq] at hch; omega
      have hcl := fun w => l2Class_any (nth zs k) w hz1'
      have hq0 : classN (nth zs k) = nth ks k := by rw [hks.out, classesN_nth zs k LT]
      rw [hq0] at hcl
      have HCL := Lib.hid hcl
      clear hcl hq0 hch hz1'
      obtain ⟨z, hzz⟩ : ∃ z, Hid (z = nth zs k) := ⟨_, Lib.hid rfl⟩
      rw [← hzz.out] at hc0 HCL
      have BC := Lib.hid (base_cons ks to k hlt (by rw [HKL.out]; exact ht))
      have BO := Lib.hid (fun h => base_open ks to k h hlt (by rw [HKL.out]; exact ht))
      have MO := Lib.hid (fun h => match_open ks k (by rw [HKL.out]; exact LT) h)
      have CL := Lib.hid (closeAt_lt (ks.drop (k + 1)) 0)
      obtain ⟨q, hq⟩ : ∃ q, Hid (q = nth ks k) := ⟨_, Lib.hid rfl⟩
      rw [← hq.out] at HCL BC BO MO
      by_cases hop : isOp q
      · have hob : opB q = true := by unfold opB; exact decide_eq_true hop
        have n0 : (q == 0) = false := by unfold isOp at hop; simp; omega
        have n1 : (q == 1) = false := by unfold isOp at hop; simp; omega
        have n2 : (q == 2) = false := by unfold isOp at hop; simp; omega
        obtain ⟨b2, off2, rfl, hb2, hcm⟩ := H2.out.int (by rw [matchN_len, HKL.out]; omega)
        have hm0 := hcm k (by rw [matchN_len, HKL.out]; exact LT)
        clear hcm
        have mo := MO.out hop
        have bo := BO.out hop
        cases hcA : closeAt 0 (ks.drop (k + 1)) with
        | none =>
          rw [hcA] at mo bo
          rw [show nth (matchN ks) k = -1 from mo] at hm0
          have E := Lib.hid (show ans = 0 by rw [hs.out]; exact bo)
          clear mo bo hop hcA
          go_wp2_with (first
            | (go_at_call 22; refine (HCL.out _).mono ?_; rintro e w' ⟨rfl, rfl⟩)
            | (go_at_call 31; refine (l3Opens_any _ _).mono ?_; rintro e w' ⟨rfl, rfl⟩; rw [hob]))
          go_ret
          exact ⟨rint E.out.symm, rfl⟩
        | some d =>
          rw [hcA] at mo bo
          have cl := CL.out d hcA
          rw [List.length_drop, HKL.out] at cl
          rw [show nth (matchN ks) k = ((k + 1 + d : Nat) : Int) from mo] at hm0
          have E := Lib.hid (show ans = baseG 0 ((ks.take to).drop (k + 1 + d + 1)) by rw [hs.out]; exact bo)
          obtain ⟨j, hj⟩ : ∃ j, Hid (j = k + 1 + d) := ⟨_, Lib.hid rfl⟩
          rw [← hj.out] at hm0 E
          have j1 : k < j := by have := hj.out; omega
          have j2 : j < zs.length := by have := hj.out; omega
          have hnn : ¬ ((j : Int) < 0) := by omega
          clear mo bo hop hcA cl
          go_wp2_with (first
            | (go_at_call 22; refine (HCL.out _).mono ?_; rintro e w' ⟨rfl, rfl⟩)
            | (go_at_call 31; refine (l3Opens_any _ _).mono ?_; rintro e w' ⟨rfl, rfl⟩; rw [hob]))
          go_round
          case rel => exact ⟨j + 1, by omega, by go_num, E⟩
          case measure => first | omega | (simp [intOf]; omega)
      · have hob : opB q = false := by unfold opB; exact decide_eq_false hop
        by_cases h0 : q = 0
        · have E := Lib.hid (show ans = 0 by rw [hs.out, BC.out, if_neg hop, if_neg (by omega), if_pos h0])
          have n0 : (q == 0) = true := by simp [h0]
          clear hop h0
          go_wp2_with (go_at_call 22; refine (HCL.out _).mono ?_; rintro e w' ⟨rfl, rfl⟩)
          go_ret
          exact ⟨rint E.out.symm, rfl⟩
        · have n0 : (q == 0) = false := by simpa using h0
          by_cases h12 : q = 1 ∨ q = 2
          · have E := Lib.hid (show ans = 1 by rw [hs.out, BC.out, if_neg hop, if_neg (by omega), if_neg h0, if_pos h12])
            by_cases h1 : q = 1
            · have n1 : (q == 1) = true := by simp [h1]
              clear hop h0 h12 h1
              go_wp2_with (go_at_call 22; refine (HCL.out _).mono ?_; rintro e w' ⟨rfl, rfl⟩)
              go_ret
              exact ⟨rint E.out.symm, rfl⟩
            · have n1 : (q == 1) = false := by simpa using h1
              have n2 : (q == 2) = true := by simp; omega
              clear hop h0 h12 h1
              go_wp2_with (go_at_call 22; refine (HCL.out _).mono ?_; rintro e w' ⟨rfl, rfl⟩)
              go_ret
              exact ⟨rint E.out.symm, rfl⟩
          · have n1 : (q == 1) = false := by simp; omega
            have n2 : (q == 2) = false := by simp; omega
            have E := Lib.hid (show ans = baseG 0 ((ks.take to).drop (k + 1)) by
              rw [hs.out, BC.out, if_neg hop]
              split
              all_goals first | rfl | rw [if_neg h0, if_neg h12])
            clear hop h0 h12
            go_wp2_with (first
              | (go_at_call 22; refine (HCL.out _).mono ?_; rintro e w' ⟨rfl, rfl⟩)
              | (go_at_call 31; refine (l3Opens_any _ _).mono ?_; rintro e w' ⟨rfl, rfl⟩; rw [hob]))
            go_round
            case rel => exact ⟨k + 1, by omega, by go_num, E⟩
            case measure => first | omega | (simp [intOf]; omega)
    · have E := Lib.hid (show ans = 0 by rw [hs.out, List.drop_of_length_le (by rw [List.length_take]; omega)]; rfl)
      go_wp2
      go_ret
      exact ⟨rint E.out.symm, rfl⟩

/-- what BaseLevel answers -/
def baseV (zs : List Int) : Int := if textF zs = 0 then baseN (classesN zs) else 0
end Go.Proofs.YtcfnhjpmihngdaaGreat

namespace Go.Proofs.YtcfnhjpmihngdaaGreat
open Go.RowKit Go.Maps

theorem baseG_at (ks : List Int) (o k : Nat) (h : k < ks.length) : baseG o (ks.drop k) =
    if isOp (nth ks k) then baseG (o + 1) (ks.drop (k + 1)) else if nth ks k = 22 then baseG (o - 1) (ks.drop (k + 1)) else if o = 0 ∧ nth ks k = 0 then 0 else if o = 0 ∧ (nth ks k = 1 ∨ nth ks k = 2) then 1 else baseG o (ks.drop (k + 1)) := by
  rw [drop_nth ks k h, baseG_cons]

set_option maxRecDepth 100000 in
set_option maxHeartbeats 1000000 in
theorem baseAmong_any (A : Option Addr) (ks : List Int) (c : Nat) (w : World) (B : Nat) (h1 : Rd w B A (nums .i64 ks)) (hB : B ≤ w.heap.size) (hl : ks.length ≤ 600) :
    Calls Tryz.prog 109 #[.slice A ks.length c] w fun e w' => e = .returned (.int .i64 (baseG 0 ks)) ∧ Below w.heap.size w w' := by
  have HR := Lib.hid h1
  have B0 := Lib.hid (Below.refl w.heap.size w)
  clear h1
  obtain ⟨ans, hans⟩ : ∃ x, Hid (x = baseG 0 ks) := ⟨_, Lib.hid rfl⟩
  rw [← hans.out]
  have EL : Hid (ans = baseG 0 (ks.drop 0)) := hans
  go_enter Tryz.func109, Tryz.ntmps109
  go_wp2
  go_loopw [3, 8] (fun o i wr => ∃ k ob : Nat, k ≤ ks.length ∧ i = .int .i64 k ∧ o = .int .i64 ob ∧ ob ≤ k ∧ Hid (ans = baseG ob (ks.drop k)) ∧ Hid (Rd wr B A (nums .i64 ks)) ∧
    Hid (Below w.heap.size w wr) ∧ w.heap.size ≤ wr.heap.size) (fun _ i _ => ks.length - (intOf i).toNat)
  case atStart => exact ⟨0, 0, by omega, rfl, rfl, by omega, EL, HR, B0, by omega⟩
  case round =>
    clear HR B0 EL
    obtain ⟨k, ob, hk, rfl, rfl, hob, hs, hrd, hbr, hsz⟩ := hrel
    by_cases hlt : k < ks.length
    · obtain ⟨b, off, rfl, hb, hc⟩ := hrd.out.int (by omega)
      have hc0 := hc k hlt
      have BA := Lib.hid (baseG_at ks ob k hlt)
      obtain ⟨q, hq⟩ : ∃ q, Hid (q = nth ks k) := ⟨_, Lib.hid rfl⟩
      rw [← hq.out] at BA hc0
      clear hc
      go_wp2_with fail
      refine (opensIsolate_any q _).mono ?_
      rintro e w3 ⟨rfl, b4⟩
      have R3 := Lib.hid (hrd.out.below b4 (by omega))
      have B4 := Lib.hid (below_on hbr.out b4 (Nat.le_refl _))
      have s3 : w.heap.size ≤ w3.heap.size := by have := b4.size; omega
      clear b4 hrd hbr hc0
      by_cases hop : isOp q
      · rw [show opB q = true from decide_eq_true hop]
        have E := Lib.hid (show ans = baseG (ob + 1) (ks.drop (k + 1)) by rw [hs.out, BA.out, if_pos hop])
        clear hop
        go_wp2
        go_roundw
        case rel => exact ⟨k + 1, ob + 1, by omega, by go_num, by go_num, by omega, E, R3, B4, s3⟩
        case measure => first | omega | (simp [intOf]; omega)
      · rw [show opB q = false from decide_eq_false hop]
        by_cases h22 : q = 22
        · have E := Lib.hid (show ans = baseG (ob - 1) (ks.drop (k + 1)) by rw [hs.out, BA.out, if_neg hop, if_pos h22])
          have n22 : (q == 22) = true := by simp [h22]
          clear hop h22
          cases ob with
          | zero =>
            go_wp2
            go_roundw
            case rel => exact ⟨k + 1, 0, by omega, by go_num, by go_num, by omega, E, R3, B4, s3⟩
            case measure => first | omega | (simp [intOf]; omega)
          | succ p =>
            go_wp2
            go_roundw
            case rel => exact ⟨k + 1, p, by omega, by go_num, by go_num, by omega, E, R3, B4, s3⟩
            case measure => first | omega | (simp [intOf]; omega)
        · have n22 : (q == 22) = false := by simpa using h22
          by_cases ho : ob = 0
          · subst ho
            by_cases h0 : q = 0
            · have E := Lib.hid (show ans = 0 by rw [hs.out, BA.out, if_neg hop, if_neg h22, if_pos ⟨rfl, h0⟩])
              have n0 : (q == 0) = true := by simp [h0]
              clear hop h22 h0
              go_wp2
              go_ret
              exact ⟨rint E.out.symm, B4.out⟩
            · have n0 : (q == 0) = false := by simpa using h0
              by_cases h12 : q = 1 ∨ q = 2
              · have E := Lib.hid (show ans = 1 by rw [hs.out, BA.out, if_neg hop, if_neg h22, if_neg (by omega), if_pos ⟨rfl, h12⟩])
                have hsp : spans q [1, 2] = true := by simp [spans]; omega
                clear hop h22 h0 h12
                go_wp2_with (go_at_call 67; (with_reducible refine (within_lit2 _ _ _ _ _ _ (by simp)).mono ?_); rintro e w' ⟨rfl, rfl⟩)
                go_ret
                exact ⟨rint E.out.symm, B4.out.alloc (by omega) _⟩
              · have E := Lib.hid (show ans = baseG 0 (ks.drop (k + 1)) by rw [hs.out, BA.out, if_neg hop, if_neg h22, if_neg (by omega), if_neg (by omega)])
                have hsp : spans q [1, 2] = false := by simp [spans]; omega
                have R4 := Lib.hid (R3.out.below ((Below.refl B w3).alloc (by omega) (.cells #[.int .i64 1, .int .i64 2] 2)) (Nat.le_refl _))
                have B5 := Lib.hid (B4.out.alloc B4.out.size (.cells #[.int .i64 1, .int .i64 2] 2))
                clear hop h22 h0 h12
                go_wp2_with (go_at_call 67; (with_reducible refine (within_lit2 _ _ _ _ _ _ (by simp)).mono ?_); rintro e w' ⟨rfl, rfl⟩)
                go_roundw
                case rel => exact ⟨k + 1, 0, by omega, by go_num, by go_num, by omega, E, R4, B5, by simp; omega⟩
                case measure => first | omega | (simp [intOf]; omega)
          · have E := Lib.hid (show ans = baseG ob (ks.drop (k + 1)) by rw [hs.out, BA.out, if_neg hop, if_neg h22, if_neg (by omega), if_neg (by omega)])
            have no : ((ob : Int) == 0) = false := by simp; omega
            clear hop h22 ho
            go_wp2
            go_roundw
            case rel => exact ⟨k + 1, ob, by omega, by go_num, by go_num, by omega, E, R3, B4, s3⟩
            case measure => first | omega | (simp [intOf]; omega)
    · have E := Lib.hid (show ans = 0 by rw [hs.out, List.drop_of_length_le (by omega)]; cases ob <;> rfl)
      go_wp2
      go_ret
      exact ⟨rint E.out.symm, hbr.out⟩

end Go.Proofs.YtcfnhjpmihngdaaGreat

namespace Go.Proofs.YtcfnhjpmihngdaaGreat
open Go.RowKit Go.Maps

theorem info_ints : (Tryz.prog.info? 22).map (fun i => (i.zero, i.size, i.bytes)) = some (some (.slice none 0 0), 1, 24) := by kernel_rfl
theorem slice_one (A : Option Addr) (n c : Nat) : ∀ u ∈ [Value.slice A n c], u.oneCell' = true := by intro u hu; simp at hu; subst hu; rfl
theorem class_ten : classN 10 = 10 := rfl
def parasV (zs : List Int) : List (List Int) := if textF zs = 0 then parasN classN zs else []
def endedV (zs : List Int) : Bool := if textF zs = 0 then endedN classN zs else false
theorem parasV_total (zs : List Int) : (parasV zs).length + total (parasV zs) ≤ 2000 := by
  unfold parasV
  split
  · have := parasN_total classN zs
    have := (textF_zero (by assumption)).1
    omega
  · simp [total]

end Go.Proofs.YtcfnhjpmihngdaaGreat
