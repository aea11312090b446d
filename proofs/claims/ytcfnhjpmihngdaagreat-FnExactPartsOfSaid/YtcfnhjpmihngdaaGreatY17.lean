/- Chapter 3: the library's Repeat of one number; the program's matches. -/
import Derived.Test.YtcfnhjpmihngdaaGreatY15
import Derived.Laws.CopyOwn
import Derived.Laws.Bits64b
import Derived.Deep.RegionLaw
import Derived.WalkLawsBesides
namespace Go.Proofs.YtcfnhjpmihngdaaGreat
open Go.RowKit Go.Maps

set_option maxRecDepth 100000 in
set_option maxHeartbeats 1000000 in
theorem mul64_one (n : Nat) (w : World) (hn : n ≤ 100000) :
    Calls Tryz.prog 105 #[.int .u64 1, .int .u64 n] w fun e w' => e = .returned (.tuple #[.int .u64 0, .int .u64 n]) ∧ w = w' := by
  have m1 : bits .and .u64 1 4294967295 = 1 := by
    have h := bits_and_u64_nat 1 4294967295 (by omega) (by omega)
    have e : 1 &&& 4294967295 = 1 % 4294967296 := Nat.and_two_pow_sub_one_eq_mod 1 32
    rw [e] at h
    exact h
  have m2 : bits .and .u64 (n : Int) 4294967295 = n := by
    have h := bits_and_u64_nat n 4294967295 (by omega) (by omega)
    have e : n &&& 4294967295 = n % 4294967296 := Nat.and_two_pow_sub_one_eq_mod n 32
    rw [e, Nat.mod_eq_of_lt (by omega)] at h
    exact h
  have m0 : bits .and .u64 0 4294967295 = 0 := by
    have h := bits_and_u64_nat 0 4294967295 (by omega) (by omega)
    have e : 0 &&& 4294967295 = 0 % 4294967296 := Nat.and_two_pow_sub_one_eq_mod 0 32
    rw [e] at h
    exact h
  have wn : IntKind.u64.wrap (n : Int) = n := by rw [IntKind.wrap_u64]; omega
  have w0 : IntKind.u64.wrap 0 = 0 := by rw [IntKind.wrap_u64]; omega
  have dn : (n : Int) / 4294967296 = 0 := by omega
  go_enter Tryz.func105, Tryz.ntmps105
  go_wp2
  go_ret2
  exact ⟨rfl, rfl⟩
theorem mul_one' (n : Nat) (w : World) (hn : n ≤ 100000) :
    Calls Tryz.prog 92 #[.int .u64 1, .int .u64 n] w fun e w' => e = .returned (.tuple #[.int .u64 0, .int .u64 n]) ∧ w = w' := by
  go_enter Tryz.func92, Tryz.ntmps92
  go_wp2_with (go_at_call 105; refine (mul64_one n _ hn).mono ?_; rintro e w' ⟨rfl, rfl⟩)
  go_ret2
  exact ⟨rfl, rfl⟩

/-- a row that is full is its block -/
theorem own_full {w : World} {base n g : Nat} {e : TypeId} {xs : List Value} (h : w.ownsRow base e 1 (.slice (some ⟨g, 0, none⟩) n n) n xs) : w.heap[g]? = some (.cells xs.toArray e (0, 0)) := by
  rcases h.2 with ⟨h', _⟩ | ⟨g', cap', cur, h', hb, hg, hnc, hcm, hcs, htake⟩
  · simp at h'
  · simp only [Value.slice.injEq, Option.some.injEq, Addr.mk.injEq, and_true, true_and] at h'
    obtain ⟨rfl, rfl⟩ := h'
    rw [List.take_of_length_le (by simp [hcs])] at htake
    rw [hg, ← htake]
theorem own_whole {w : World} {base n g : Nat} {e : TypeId} {xs : List Value} (h : w.heap[g]? = some (.cells xs.toArray e (0, 0))) (hb : base ≤ g) (hl : xs.length = n) (hm : n ≤ maxLen) : w.ownsRow base e 1 (.slice (some ⟨g, 0, none⟩) n n) n xs :=
  ⟨by omega, .inr ⟨g, n, xs.toArray, rfl, hb, h, Nat.le_refl _, hm, by simp [hl], by simp [← hl]⟩⟩
/-- m times x; j times x, then n - j times 0: closed to simp -/
def reps (x : Int) (m : Nat) : List Value := nums .i64 (List.replicate m x)
def repRow (x : Int) (n j : Nat) : List Value := nums .i64 (List.replicate j x ++ List.replicate (n - j) 0)
theorem reps_length (x : Int) (m : Nat) : (reps x m).length = m := by simp [reps, nums]
theorem repRow_length (x : Int) (n j : Nat) (h : j ≤ n) : (repRow x n j).length = n := by simp [repRow, nums]; omega
theorem repRow_full (x : Int) (n : Nat) : repRow x n n = nums .i64 (List.replicate n x) := by simp [repRow]
theorem reps_one (x : Int) (m : Nat) : ∀ u ∈ reps x m, u.oneCell' = true := nums_one _ _
theorem reps_get (x : Int) (m i : Nat) (v : Value) (h : (reps x m)[i]? = some v) : i < m ∧ v = .int .i64 x := by
  have hi : i < m := by have := (List.getElem?_eq_some_iff.1 h).1; rwa [reps_length] at this
  refine ⟨hi, ?_⟩
  simp [reps, nums, hi] at h
  exact h.symm
theorem repRow_get (x : Int) (n j i : Nat) (h : i < j) : (repRow x n j)[i]? = some (.int .i64 x) := by
  simp [repRow, nums, List.getElem?_append_left, h]
theorem splice_rep (j n m : Nat) (x : Int) : splice (repRow x n j) j (reps x m) = repRow x n (j + m) := by
  unfold splice repRow reps nums
  simp only [List.map_append, List.map_replicate, List.length_replicate]
  rw [List.take_append_of_le_length (by simp), List.take_of_length_le (by simp), List.drop_append, List.length_replicate, List.drop_of_length_le (by simp), List.nil_append, List.drop_replicate, ← List.append_assoc, List.replicate_append_replicate]
  congr 2
  omega

theorem rep_there {w w' : World} {g n j x : Nat} {t : TypeId} {z : Int} (hg : w.heap[g]? = some (.cells (repRow z n j).toArray t (0, 0))) (_ : Nat) (i : Nat) (v : Value) (hi : (reps z x)[i]? = some v) (hx : x ≤ j) (hw : w'.heap = w.heap) :
    w'.cell? ((⟨g, 0, none⟩ : Addr).add i) = some v := by
  obtain ⟨h1, rfl⟩ := reps_get z x i v hi
  have e0 : (⟨g, 0, none⟩ : Addr).add i = ⟨g, i, none⟩ := by unfold Addr.add; split <;> simp_all
  rw [e0, cell_of_row w' g i _ t (0, 0) (by rw [hw]; exact hg)]
  simpa using repRow_get z n j i (by omega)

set_option maxRecDepth 100000 in
set_option maxHeartbeats 1000000 in
theorem repeat_any (z : Int) (g n : Nat) (w : World) (hc : w.cell? ⟨g, 0, none⟩ = some (.int .i64 z)) (hn : n ≤ 100000) :
    Calls Tryz.prog 70 #[.slice (some ⟨g, 0, none⟩) 1 1, .int .i64 n] w fun e w' => (∃ v, e = .returned v ∧ Own w' w.heap.size w'.heap.size 2 .i64 v (List.replicate n z)) ∧ Below w.heap.size w w' := by
  obtain ⟨i0, hi, hz0, hz1, hz2⟩ := info_parts info_int64
  have HC := Lib.hid hc
  have hgl : g < w.heap.size := World.block_lt_of_cell? w _ hc
  clear hc
  obtain ⟨m, hm⟩ : ∃ m, Hid (m = min 1 n) := ⟨_, Lib.hid rfl⟩
  have hmn : m ≤ n := by rw [hm.out]; omega
  have hm1 : m ≤ 1 := by rw [hm.out]; omega
  have hm0 : 0 < n → m = 1 := by rw [hm.out]; omega
  have hrl : (reps z m).length = m := reps_length z m
  have CS : Hid ((reps z m).length = Nat.min 1 n) := Lib.hid (by rw [hrl]; exact hm.out)
  have SP := Lib.hid (splice_rep 0 n m z)
  have HM := Lib.hid hm0
  clear hm0
  go_enter Tryz.func70, Tryz.ntmps70
  go_wp2_with (first
    | (go_at_call 92; refine (mul_one' n _ hn).mono ?_; rintro e w' ⟨rfl, rfl⟩)
    | (at_make; refine wpList_make_full _ rfl _ _ _ rfl w.heap.size 2 i0 (.int .i64 0) 1 Tryz.underlying22 hi hz0 hz1 _ _ _ _ n rfl rfl rfl rfl (by rw [hz2]; omega) (by unfold maxLen; omega) (Nat.le_refl _) ?_; intro w1 hown1 hg1
       have hb1 : Hid (Below w.heap.size w w1) := Lib.hid ((Below.refl _ _).grown hg1 (Nat.le_refl _) (by simp))
       have G1 : Hid (w1.heap[w.heap.size]? = some (.cells (repRow z n 0).toArray 2 (0, 0))) := Lib.hid (by
         have := own_full hown1
         rw [show n * 1 = n by omega, show (Value.int .i64 0).cells = #[.int .i64 0] from rfl, toList_madeCells_one] at this
         simpa [nums, repRow] using this)
       clear hown1 hg1)
    | (refine wpList_copy_splice rfl (.tmp 31) (.tmp 32) 22 22 rfl 2 Tryz.underlying22 (by kernel_rfl) (some ⟨w.heap.size, 0, none⟩) (some ⟨g, 0, none⟩) n n 1 1 rfl rfl w.heap.size 0 (repRow z n 0) 2 G1.out (reps z m) CS.out ?_ ?_ (reps_one _ _) w.heap.size w hb1.out (Nat.le_refl _) ?_))
  · intro hp j v hj
    obtain ⟨h1, rfl⟩ := reps_get z m j v hj
    obtain rfl : j = 0 := by omega
    rw [hb1.out.cell (p := ⟨g, 0, none⟩) hgl, HC.out]
  · rw [repRow_length _ _ _ (by omega)]; omega
  · intro w2 h2 b2
    have G2 : Hid (w2.heap[w.heap.size]? = some (.cells (repRow z n m).toArray 2 (0, 0))) := Lib.hid (by
      have := h2.out
      rw [SP.out, Nat.zero_add] at this; exact this)
    have B2 := Lib.hid b2
    clear h2 b2 hb1 G1
    go_wp2
    go_loopw [8] (fun v wr => ∃ j : Nat, v = .int .i64 j ∧ j ≤ n ∧ Hid (0 < n → 0 < j) ∧ Hid (wr.heap[w.heap.size]? = some (.cells (repRow z n j).toArray 2 (0, 0))) ∧ Hid (Below w.heap.size w wr)) (fun v _ => n - (intOf v).toNat)
    case atStart => exact ⟨m, rfl, hmn, Lib.hid (fun h => by have := HM.out h; omega), G2, B2⟩
    case round =>
      clear G2 B2
      obtain ⟨j, rfl, hj, h0, hg, hbr⟩ := hrel
      by_cases hlt : j < n
      · have hj0 : 0 < j := h0.out (by omega)
        obtain ⟨x, hx⟩ : ∃ x, Hid (x = min j (n - j)) := ⟨_, Lib.hid rfl⟩
        have hxl : (reps z x).length = x := reps_length z x
        have SX := Lib.hid (splice_rep j n x z)
        have X1 : x ≤ n - j := by have := hx.out; omega
        have X2 : x ≤ j := by have := hx.out; omega
        have X3 : 0 < x := by have := hx.out; omega
        have HX := Lib.hid (show (reps z x).length = Nat.min j (n - j) by rw [hxl]; exact hx.out)
        have hnj : ¬ n = j := by omega
        have hwr : IntKind.i64.wrap ((j : Int) + (x : Int)) = ((j + x : Nat) : Int) := by rw [IntKind.wrap_i64]; omega
        have hxn : j + x ≤ n := by omega
        go_wp2
        go_region_law (refine step_copy_splice (w0 := w) (B := w.heap.size) rfl (.tmp 41) (.tmp 44) 22 22 rfl 2 Tryz.underlying22 (by kernel_rfl) (some ⟨w.heap.size, j, none⟩) (some ⟨w.heap.size, 0, none⟩) (n - j) (n - j) j n (by kernel_rfl) (by kernel_rfl) w.heap.size j (repRow z n j) 2 (by exact hg.out) (reps z x) HX.out (by exact (fun _ => ⟨rfl, _, rfl, fun i v hi => rep_there hg.out j i v hi X2 rfl⟩)) (by rw [repRow_length _ _ _ (by omega), hxl]; omega) (reps_one _ _) (by exact hbr.out.drew) (Nat.le_refl _) ?_; intro w4 h4 b4)
        all_goals
          have G4 : Hid (w4.heap[w.heap.size]? = some (.cells (repRow z n (j + x)).toArray 2 (0, 0))) := Lib.hid (by have := h4.out; rw [SX.out] at this; exact this)
          have B4 := Lib.hid b4
          clear h4 b4
          go_simp
          go_roundw
          case rel =>
            (repeat apply Exists.intro)
            exact ⟨⟨j + x, rfl, by omega, Lib.hid (fun _ => by omega), G4, B4⟩, rfl⟩
          case measure => first | omega | (simp [intOf]; omega)
      · have e : j = n := by omega
        subst e
        have HO := Lib.hid (show Own wr w.heap.size wr.heap.size 2 .i64 (.slice (some ⟨w.heap.size, 0, none⟩) j j) (List.replicate j z) from Own.mk_ (by
          have := own_whole (n := j) (base := w.heap.size) hg.out (Nat.le_refl _) (repRow_length _ _ _ (Nat.le_refl _)) (by unfold maxLen; omega)
          rw [repRow_full] at this; exact this) (by simp))
        go_wp2
        go_ret
        exact ⟨⟨_, rfl, HO.out⟩, hbr.out⟩
set_option maxRecDepth 100000 in
set_option maxHeartbeats 1000000 in
theorem matchesAmong_any (A : Option Addr) (ks : List Int) (c : Nat) (w : World) (B : Nat) (h1 : Rd w B A (nums .i64 ks)) (hB : B ≤ w.heap.size) (hl : ks.length ≤ 600) :
    Calls Tryz.prog 69 #[.slice A ks.length c] w fun e w' => (∃ v, e = .returned v ∧ Own w' w.heap.size w'.heap.size 2 .i64 v (matchN ks)) ∧ Below w.heap.size w w' := by
  obtain ⟨i0, hi, hz0, hz1, hz2⟩ := info_parts info_int64
  obtain ⟨n, hn⟩ : ∃ n, Hid (n = ks.length) := ⟨_, Lib.hid rfl⟩
  rw [← hn.out] at hl ⊢
  have HKN := Lib.hid hn.out.symm
  have X1 := Lib.hid (Below.heap_alloc w (.cells #[.int .i64 (-1)] 2))
  have cx : Hid ((w.alloc (.cells #[.int .i64 (-1)] 2)).cell? ⟨w.heap.size, 0, none⟩ = some (.int .i64 (-1))) := Lib.hid ((Blk.new w 2 #[.int .i64 (-1)]).cell 0 (u := .int .i64 (-1)) rfl)
  have B2a := Lib.hid ((Below.refl w.heap.size w).alloc (Nat.le_refl _) (.cells #[.int .i64 (-1)] 2))
  have R1a := Lib.hid (h1.below ((Below.refl B w).alloc (by omega) (.cells #[.int .i64 (-1)] 2)) (Nat.le_refl _))
  clear h1
  go_enter Tryz.func69, Tryz.ntmps69
  go_wp2_with fail
  refine (repeat_any (-1) w.heap.size n _ cx.out (by omega)).mono ?_
  rintro e w2 ⟨⟨v2, rfl, o2⟩, b3⟩
  have B3 := Lib.hid (below_on B2a.out b3 (Nat.le_refl _))
  have R2 := Lib.hid (R1a.out.below b3 (by simp; omega))
  have s2 : w.heap.size + 1 ≤ w2.heap.size := by have := b3.size; simpa using this
  obtain ⟨A2, c2, rfl⟩ := o2.form
  have O2 := Lib.hid o2
  rw [List.length_replicate] at *
  clear o2 b3 cx X1 B2a R1a
  have M3' : Hid (w2.ownsRow (w.heap.size + 1) 2 1 (.slice A2 n c2) n (nums .i64 ((mrun (ks.take 0)).1 ++ List.replicate (n - 0) (-1)))) := Lib.hid (by
    have := O2.out.1
    rw [List.length_replicate, World.size_alloc] at this
    simpa [mrun] using this)
  have MLT := Lib.hid O2.out.2
  clear O2
  go_wp2
  go_loopw [4, 14] (fun v i wr => ∃ k : Nat, k ≤ n ∧ i = .int .i64 k ∧ Hid (wr.ownsRow (w.heap.size + 1) 2 1 (.slice A2 n c2) n (nums .i64 ((mrun (ks.take k)).1 ++ List.replicate (n - k) (-1)))) ∧
    Hid (Rd wr B A (nums .i64 ks)) ∧ Hid (wr.ownsRow w2.heap.size 2 1 v (mrun (ks.take k)).2.length (nums .i64 (mrun (ks.take k)).2)) ∧
    Hid (Below w.heap.size w wr) ∧ w2.heap.size ≤ wr.heap.size) (fun _ i _ => n - (intOf i).toNat)
  case atStart => exact ⟨0, by omega, rfl, M3', R2, Lib.hid (World.ownsRow_nil _ _ _ _), B3, by omega⟩
  case round =>
    clear M3' R2 B3
    obtain ⟨k, hk, rfl, ho, hrd, hp, hbr, hsz⟩ := hrel
    by_cases hlt : k < n
    · obtain ⟨gm, cm, eM, hgm⟩ := own_addr ho.out (by omega)
      injection eM with eM1 eM2 eM3
      subst eM1; subst eM3
      clear eM2
      obtain ⟨b, off, rfl, hb, hc⟩ := hrd.out.int (by rw [HKN.out]; omega)
      have gml := MLT.out gm rfl
      have hc0 := hc k (by rw [HKN.out]; exact hlt)
      clear hc
      have HST := Lib.hid (mrun_step ks k (by rw [HKN.out]; exact hlt))
      obtain ⟨q, hq⟩ : ∃ q, Hid (q = nth ks k) := ⟨_, Lib.hid rfl⟩
      rw [← hq.out] at hc0 HST
      have HML := Lib.hid (show (mrun (ks.take k)).1.length = k by rw [mrun_len, List.length_take, HKN.out]; omega)
      have hol : (mrun (ks.take k)).2.length ≤ k := by have := mrun_open (ks.take k); rw [List.length_take] at this; omega
      have WF := Lib.hid (mrun_wf (ks.take k))
      obtain ⟨M, hM⟩ : ∃ M, Hid (M = mrun (ks.take k)) := ⟨_, Lib.hid rfl⟩
      rw [← hM.out] at HST HML hol WF ho hp
      go_wp2_with fail
      refine (opensIsolate_any q _).mono ?_
      rintro e w4 ⟨rfl, b5⟩
      have O4 := Lib.hid (own_below ho.out b5)
      have C4 := Lib.hid (hrd.out.below b5 (by omega))
      have P4 := Lib.hid (own_below hp.out b5)
      have B5 := Lib.hid (below_on hbr.out b5 (Nat.le_refl _))
      have s4 : w2.heap.size ≤ w4.heap.size := by have := b5.size; omega
      clear b5 ho hrd hp hbr hc0
      by_cases hop : isOp q
      · rw [show opB q = true from decide_eq_true hop]
        have E1 := Lib.hid (show mrun (ks.take (k + 1)) = (M.1 ++ [-1], M.2 ++ [(k : Int)]) by rw [HST.out]; unfold mstep; rw [if_pos hop, HML.out])
        have RL := Lib.hid (show (M.1 ++ List.replicate (n - k) (-1 : Int)) = (M.1 ++ [-1]) ++ List.replicate (n - (k + 1)) (-1) by
          rw [show n - k = (n - (k + 1)) + 1 by omega, List.replicate_succ, List.append_assoc]; rfl)
        clear hop
        go_wp2_with (at_builtin; go_loud (refine wpList_app rfl _ _ _ rfl w2.heap.size Tryz.underlying22 hi hz0 hz1 hz2 rfl (by omega) rfl (P4.out.alloc _) rfl (Rd.lit w4 #[.int .i64 k] _) (m := 1) rfl (nums_one .i64 [(k : Int)]) (by omega) (by omega) (by simp; omega) ?_); intro v' w5 o5 g5 a5; obtain ⟨A5, c5, rfl⟩ := own_form o5)
        have gg : w4.grownBy w5 _ := (World.grownBy_alloc w4 _ _).trans g5
        have notO : ∀ b, Value.ownBlock _ = some b → w2.heap.size ≤ b := fun b hb => (P4.out.lt b hb).1
        have P5 : Hid (w5.ownsRow w2.heap.size 2 1 (.slice A5 (M.2.length + 1) c5) (mrun (ks.take (k + 1))).2.length (nums .i64 (mrun (ks.take (k + 1))).2)) := Lib.hid (by rw [E1.out]; exact own_app1 o5 rfl)
        have O5 : Hid (w5.ownsRow (w.heap.size + 1) 2 1 (.slice (some ⟨gm, 0, none⟩) n c2) n (nums .i64 ((mrun (ks.take (k + 1))).1 ++ List.replicate (n - (k + 1)) (-1)))) := Lib.hid (by
          rw [E1.out]
          show w5.ownsRow _ _ _ _ _ (nums .i64 ((M.1 ++ [-1]) ++ List.replicate (n - (k + 1)) (-1)))
          rw [← RL.out]; exact O4.out.kept gg (.inr fun e => by have : w2.heap.size ≤ gm := notO _ e.symm; omega))
        have C5 := Lib.hid (C4.out.below ((Below.refl B w4).grown gg (by omega) (fun b hb => by have := notO b hb; omega)) (Nat.le_refl _))
        have B6 := Lib.hid (B5.out.grown gg B5.out.size (fun b hb => by have := notO b hb; omega))
        have s5 : w2.heap.size ≤ w5.heap.size := by have := gg.size; omega
        clear o5 g5 a5 gg notO
        go_roundw
        case rel => exact ⟨k + 1, by omega, by go_num, O5, C5, P5, B6, s5⟩
        case measure => first | omega | (simp [intOf]; omega)
      · rw [show opB q = false from decide_eq_false hop]
        by_cases h22 : q = 22 ∧ 0 < M.2.length
        · obtain ⟨h22, h0⟩ := h22
          have E1 := Lib.hid (show mrun (ks.take (k + 1)) = (M.1.set (lastOf M.2).toNat (k : Int) ++ [lastOf M.2], M.2.dropLast) by rw [HST.out]; unfold mstep; rw [if_neg hop, if_pos ⟨h22, h0⟩, HML.out])
          have hqe : (q == 22) = true := by simp [h22]
          obtain ⟨m, hm⟩ : ∃ m, Hid (M.2.length = m + 1) := ⟨M.2.length - 1, Lib.hid (by show M.2.length = _; omega)⟩
          have lst := WF.out.last h0
          rw [HML.out] at lst
          obtain ⟨x, hx⟩ : ∃ x : Nat, Hid (lastOf M.2 = (x : Int)) := ⟨(lastOf M.2).toNat, Lib.hid (by show lastOf M.2 = _; omega)⟩
          rw [hx.out] at lst E1
          have lx : x < k := by omega
          have P3 := P4
          rw [hm.out] at P3
          obtain ⟨g', c', rfl, hgb⟩ := own_addr P3.out (by omega)
          have cp := own_cap P3.out
          have hcl := own_cell P3.out m (by omega)
          rw [show nth M.2 m = lastOf M.2 by unfold lastOf; rw [hm.out]; rfl, hx.out] at hcl
          have xt : ((x : Nat) : Int).toNat = x := by omega
          have E2 := Lib.hid (match_lists1 M.1 k x (n - (k + 1)) (-1) HML.out lx)
          rw [show n - (k + 1) + 1 = n - k by omega] at E2
          rw [xt] at E1
          have hmb : m < 600 := by have := hm.out; omega
          clear lst xt h22 h0 hol hop
          have tok1 : True := trivial
          go_wp2_with (first
            | (have _t := tok1; refine wpList_put rfl _ _ _ rfl i0 hi hz1 x (.int .i64 k) rfl rfl rfl O4.out (by omega) ?_; intro w5 o5 g5; clear tok1 hcl)
            | (refine wpList_put rfl _ _ _ rfl i0 hi hz1 k (.int .i64 x) rfl rfl rfl o5 hlt ?_; intro w6 o6 g6))
          have O6 : Hid (w6.ownsRow (w.heap.size + 1) 2 1 (.slice (some ⟨gm, 0, none⟩) n c2) n (nums .i64 ((mrun (ks.take (k + 1))).1 ++ List.replicate (n - (k + 1)) (-1)))) := Lib.hid (by
            rw [E1.out]
            show w6.ownsRow _ _ _ _ _ (nums .i64 ((M.1.set x (k : Int) ++ [(x : Int)]) ++ List.replicate (n - (k + 1)) (-1)))
            rw [← E2.out]
            have := own_set (ys := (M.1 ++ List.replicate (n - k) (-1)).set x (k : Int)) (j := k) (z := (x : Int)) (by rw [← nums_set]; exact o6)
            exact this)
          have gg := g5.trans g6
          have P6 : Hid (w6.ownsRow w2.heap.size 2 1 (.slice (some ⟨g', 0, none⟩) m c') (mrun (ks.take (k + 1))).2.length (nums .i64 (mrun (ks.take (k + 1))).2)) := Lib.hid (by
            rw [E1.out]
            have := own_pop1 (P3.out.kept gg (.inr (by simp [Value.ownBlock]; omega)))
            have el : M.2.dropLast.length = m := by rw [List.length_dropLast, hm.out]; omega
            show w6.ownsRow _ _ _ _ M.2.dropLast.length (nums .i64 M.2.dropLast)
            rw [el]; exact this)
          have C6 := Lib.hid (C4.out.below ((Below.refl B w4).grown gg (by omega) (fun b hb => by injection hb with hb; omega)) (Nat.le_refl _))
          have B6 := Lib.hid (B5.out.grown gg B5.out.size (fun b hb => by injection hb with hb; omega))
          have s6 : w2.heap.size ≤ w6.heap.size := by have := gg.size; omega
          clear o5 o6 g5 g6 gg
          go_roundw
          case rel => exact ⟨k + 1, by omega, by go_num, O6, C6, P6, B6, s6⟩
          case measure => first | omega | (simp [intOf]; omega)
        · have E1 := Lib.hid (show mrun (ks.take (k + 1)) = (M.1 ++ [-1], M.2) by rw [HST.out]; unfold mstep; rw [if_neg hop, if_neg h22])
          have RL := Lib.hid (show (M.1 ++ List.replicate (n - k) (-1 : Int)) = (M.1 ++ [-1]) ++ List.replicate (n - (k + 1)) (-1) by
            rw [show n - k = (n - (k + 1)) + 1 by omega, List.replicate_succ, List.append_assoc]; rfl)
          have O5 : Hid (w4.ownsRow (w.heap.size + 1) 2 1 (.slice (some ⟨gm, 0, none⟩) n c2) n (nums .i64 ((mrun (ks.take (k + 1))).1 ++ List.replicate (n - (k + 1)) (-1)))) := Lib.hid (by
            rw [E1.out]
            show w4.ownsRow _ _ _ _ _ (nums .i64 ((M.1 ++ [-1]) ++ List.replicate (n - (k + 1)) (-1)))
            rw [← RL.out]; exact O4.out)
          have P5 := P4
          rw [show M.2 = (mrun (ks.take (k + 1))).2 by rw [E1.out]] at P5
          obtain ⟨A5, c5, rfl⟩ := own_form P4.out
          by_cases hq2 : q = 22
          · have hqe : (q == 22) = true := by simp [hq2]
            have h0 : M.2.length = 0 := by omega
            have e0 : ((M.2.length : Nat) : Int) = 0 := by omega
            clear hop h22 hq2 h0
            go_wp2
            go_roundw
            case rel => exact ⟨k + 1, by omega, by go_num, O5, C4, P5, B5, s4⟩
            case measure => first | omega | (simp [intOf]; omega)
          · have hqe : (q == 22) = false := by simpa using hq2
            clear hop h22 hq2
            go_wp2
            go_roundw
            case rel => exact ⟨k + 1, by omega, by go_num, O5, C4, P5, B5, s4⟩
            case measure => first | omega | (simp [intOf]; omega)
    · have e : ks.take k = ks := List.take_of_length_le (by rw [HKN.out]; omega)
      have e2 : n - k = 0 := by omega
      rw [e, e2, List.replicate_zero, List.append_nil] at ho
      have hml : (mrun ks).1.length = n := by rw [mrun_len, HKN.out]
      have HO := Lib.hid (show Own wr w.heap.size wr.heap.size 2 .i64 (.slice A2 n c2) (matchN ks) from (Own.mk_ ho.out hml.symm).more (by omega) (Nat.le_refl _))
      clear e e2 ho hml
      go_wp2
      go_ret
      exact ⟨⟨_, rfl, HO.out⟩, hbr.out⟩
end Go.Proofs.YtcfnhjpmihngdaaGreat
