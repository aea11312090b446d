/- Chapter 4: the model's state: embeddings, isolates. -/
import Derived.Test.YtcfnhjpmihngdaaGreatY18
namespace Go.Proofs.YtcfnhjpmihngdaaGreat
open Go.RowKit Go.Maps

theorem info_sEntry : (Tryz.prog.info? 56).map (fun i => (i.zero, i.size, i.bytes)) = some (some (.agg #[.int .i64 0, .int .i64 0, .bool false]), 3, 24) := by kernel_rfl
theorem sEntry_lev (x y : Int) (z : Bool) (w : World) : (Instr.field 56 (.agg #[.int .i64 x, .int .i64 y, .bool z]) 0).run Tryz.prog w = .ok (.int .i64 x) w := by
  simp [Instr.field, go_sem, asAgg]
theorem sEntry_iso (x y : Int) (z : Bool) (w : World) : (Instr.field 56 (.agg #[.int .i64 x, .int .i64 y, .bool z]) 2).run Tryz.prog w = .ok (.bool z) w := by
  simp [Instr.field, go_sem, asAgg]
theorem embS_full {left : Bool} {way : Int} {s : Tell} {n : Int} (hn : nextL left s.stk = n) (h : Full n s) : embS left way s = if s.li = 0 then ⟨s.stk, s.li, s.le + 1, s.is⟩ else s := by unfold embS; rw [hn, if_pos h]
theorem embS_room {left : Bool} {way : Int} {s : Tell} {n : Int} (hn : nextL left s.stk = n) (h : ¬ Full n s) : embS left way s = ⟨s.stk ++ [⟨n, way, false⟩], s.li, s.le, s.is⟩ := by unfold embS; rw [hn, if_neg h]
theorem isoS_full {left : Bool} {s : Tell} {n : Int} (hn : nextL left s.stk = n) (h : Full n s) : isoS left s = ⟨s.stk, s.li + 1, s.le, s.is⟩ := by unfold isoS; rw [hn, if_pos h]
theorem isoS_room {left : Bool} {s : Tell} {n : Int} (hn : nextL left s.stk = n) (h : ¬ Full n s) : isoS left s = ⟨s.stk ++ [⟨n, -1, true⟩], s.li, s.le, s.is + 1⟩ := by unfold isoS; rw [hn, if_neg h]
theorem nextL_eq (left : Bool) (l : List Tier) : nextL left l = nextN left (topT l).lev := rfl
theorem leftQ_emb {k : Int} (h : isEmb k) : leftQ k = leftK k := by
  unfold isEmb at h
  unfold leftQ leftK
  rcases h with rfl | rfl | rfl | rfl <;> rfl

attribute [local go_sem] sEntry_lev sEntry_iso
set_option maxRecDepth 100000 in
set_option maxHeartbeats 1000000 in
theorem sEmbed_any (w : World) (S : Nat → Prop) (g : Nat) (s : Tell) (L C : List Int) (v1 v2 v3 : Value) (h : MSt w S g s L C v1 v2 v3) (hO : Open S w) (i : Nat) (hW : WfT s i) (hi : i ≤ 600) (k : Int) (hk : isEmb k) :
    Calls Tryz.prog 24 #[.pointer (some ⟨g, 0, none⟩), .int .i64 k] w fun e w' => (e = .returned (.tuple #[]) ∧ ∃ u, MSt w' S g (embS (leftK k) (wayK k) s) L C u v2 v3) ∧ Fr S w w' := by
  obtain ⟨i0, hif, hz0, hz1, hz2⟩ := info_parts info_sEntry
  have hp := hW.pos
  have hl : s.stk.length ≤ 700 := by have := hW.len; omega
  have tp := hW.top
  have nl := nextN_low (leftQ k) (topT s.stk).lev tp.1
  have hEN : nextL (leftK k) s.stk = nextN (leftQ k) (topT s.stk).lev := by rw [nextL_eq, leftQ_emb hk]
  have hli : s.li ≤ 600 := by have := hW.li; omega
  have hle : s.le ≤ 600 := by have := hW.le; omega
  obtain ⟨n, hn⟩ : ∃ n, Hid (n = nextN (leftQ k) (topT s.stk).lev) := ⟨_, Lib.hid rfl⟩
  rw [← hn.out] at hEN nl
  have n0 : 0 ≤ n := by omega
  have n1 : n ≤ 127 := by omega
  have tl := tp.1
  have th := tp.2.1
  clear nl tp
  have HEN := Lib.hid hEN
  clear hEN
  go_enter Tryz.func24, Tryz.ntmps24
  go_wp2_with fail
  refine (sLast_any w S g s L C _ _ _ h hp hl).mono ?_
  rintro e w1 ⟨rfl, bl⟩
  have h1 := h.below bl
  have O1 := Lib.hid (hO.on bl.size)
  have F1 := Lib.hid (Fr.of_below (S := S) bl)
  clear bl h hO
  go_wp2_with fail
  refine (sNext_any k _ w1 tl (by omega)).mono ?_
  rintro e w' ⟨rfl, rfl⟩
  rw [← hn.out]
  have H1 := Lib.hid h1
  have e1 := h1.blk.cell 1 (u := .int .i64 s.li) rfl
  have e2 := h1.blk.cell 2 (u := .int .i64 s.le) rfl
  have f2 := h1.blk.frozen 2
  have hgl := h1.blk.lt
  clear h1 hW
  by_cases hF : Full n s
  · by_cases h0 : s.li = 0
    · have E := Lib.hid (show embS (leftK k) (wayK k) s = ⟨s.stk, s.li, s.le + 1, s.is⟩ by rw [embS_full HEN.out hF, if_pos h0])
      have h2 := Lib.hid (H1.out.num 2 (s.le + 1) ⟨s.stk, s.li, s.le + 1, s.is⟩ rfl rfl)
      have F2 := Lib.hid (F1.out.trans (Fr.set w1 ⟨g, 2, none⟩ (.int .i64 ((s.le + 1 : Nat) : Int)) H1.out.ing))
      by_cases h5 : 125 < n
      · clear hF
        go_wp2
        refine bodyPost_ret (results_none rfl _ _ _) rfl ?_
        rw [E.out]
        exact ⟨⟨rfl, _, h2.out⟩, F2.out⟩
      · have hl0 : 0 < s.le := by unfold Full at hF; omega
        clear hF
        go_wp2
        refine bodyPost_ret (results_none rfl _ _ _) rfl ?_
        rw [E.out]
        exact ⟨⟨rfl, _, h2.out⟩, F2.out⟩
    · have E := Lib.hid (show embS (leftK k) (wayK k) s = s by rw [embS_full HEN.out hF, if_neg h0])
      have h00 : 0 < s.li := by omega
      by_cases h5 : 125 < n
      · clear hF
        go_wp2
        refine bodyPost_ret (results_none rfl _ _ _) rfl ?_
        rw [E.out]
        exact ⟨⟨rfl, _, H1.out⟩, F1.out⟩
      · clear hF
        go_wp2
        refine bodyPost_ret (results_none rfl _ _ _) rfl ?_
        rw [E.out]
        exact ⟨⟨rfl, _, H1.out⟩, F1.out⟩
  · have E := Lib.hid (embS_room (way := wayK k) HEN.out hF)
    have h5 : ¬ 125 < n := by unfold Full at hF; omega
    have h6 : s.li = 0 := by unfold Full at hF; omega
    have h7 : s.le = 0 := by unfold Full at hF; omega
    obtain ⟨y, hy⟩ : ∃ y, Hid (y = wayK k) := ⟨_, Lib.hid rfl⟩
    rw [← hy.out] at E
    have H2 := Lib.hid (H1.out.alloc (.cells #[.int .i64 n, .int .i64 y, .bool false] 56))
    have O2 := Lib.hid (O1.out.on (w' := w1.alloc (.cells #[.int .i64 n, .int .i64 y, .bool false] 56)) (by simp))
    have F2 := Lib.hid (F1.out.trans (Fr.alloc w1 (.cells #[.int .i64 n, .int .i64 y, .bool false] 56)))
    have k2 := Blk.new w1 56 #[.int .i64 n, .int .i64 y, .bool false]
    have r0 := k2.cell 0 (u := .int .i64 n) rfl
    have r1 := k2.cell 1 (u := .int .i64 y) rfl
    have r2 := k2.cell 2 (u := .bool false) rfl
    have hln : s.stk.length + 1 ≤ 701 := by omega
    obtain ⟨A1, c1, rfl⟩ := H1.out.r1.form
    have e0 := H2.out.blk.cell 0 (u := .slice A1 s.stk.length c1) rfl
    clear hF k2
    have HY : (k = 14 ∧ y = -1) ∨ (k = 15 ∧ y = -1) ∨ (k = 17 ∧ y = 0) ∨ (k = 18 ∧ y = 1) := by
      have := hy.out
      unfold isEmb at hk
      rcases hk with rfl | rfl | rfl | rfl
      · exact .inl ⟨rfl, this⟩
      · exact .inr (.inl ⟨rfl, this⟩)
      · exact .inr (.inr (.inl ⟨rfl, this⟩))
      · exact .inr (.inr (.inr ⟨rfl, this⟩))
    clear hy hk
    rcases HY with ⟨rfl, rfl⟩ | ⟨rfl, rfl⟩ | ⟨rfl, rfl⟩ | ⟨rfl, rfl⟩
    · have HB := Lib.hid ((H2.out.alloc (.cells #[.int .i64 n, .int .i64 (-1), .bool false] 56)).below (drew_below _))
      have OB : Hid (Open S (((w1.alloc (.cells #[.int .i64 n, .int .i64 (-1), .bool false] 56)).alloc (.cells #[.int .i64 n, .int .i64 (-1), .bool false] 56)).drew)) := Lib.hid (O2.out.on (by show _ ≤ ((w1.alloc (.cells #[.int .i64 n, .int .i64 (-1), .bool false] 56)).alloc (.cells #[.int .i64 n, .int .i64 (-1), .bool false] 56)).heap.size; simp))
      have FB := Lib.hid ((F2.out.trans (Fr.alloc _ (.cells #[.int .i64 n, .int .i64 (-1), .bool false] 56))).trans (Fr.of_below (drew_below _)))
      have RB := Lib.hid (by
        have q := Rd.lit (w1.alloc (.cells #[.int .i64 n, .int .i64 (-1), .bool false] 56)) #[.int .i64 n, .int .i64 (-1), .bool false] 56
        rw [World.size_alloc] at q
        exact q.below (drew_below _) (by simp))
      go_wp2
      go_region_law (refine step_apps (by rfl) _ _ _ rfl 0 Tryz.underlying57 hif hz0 hz1 hz2 rfl (by omega) rfl HB.out.r1.1 rfl (B := w1.heap.size + 1 + 1) (A := some ⟨w1.heap.size + 1, 0, none⟩) (m := 1) (news := [.int .i64 n, .int .i64 (-1), .bool false]) RB.out rfl (by simp [Value.oneCell']) (by omega) (by omega) (by omega) ?_; intro v' w5 o5 g5 a5; obtain ⟨A5, c5, rfl⟩ := own_form o5; have HP := Lib.hid (HB.out.push OB.out ⟨n, -1, false⟩ o5 g5 a5); have FP := Lib.hid ((FB.out.trans (Fr.grown g5 (fun b hb => (HB.out.r1.2 b hb).1))).trans (Fr.set w5 ⟨g, 0, none⟩ (.slice A5 (s.stk.length + 1) c5) HB.out.ing)); have KP : Blk w5 g _ _ := (g5.block g HB.out.blk.lt (fun e => (HB.out.r1.2 g e.symm).2 rfl)).trans HB.out.blk; have x0 := KP.cell 0 (u := .slice A1 s.stk.length c1) rfl; have x1 := KP.frozen 0; clear KP o5 g5 a5)
      all_goals
        go_wp2
        go_end0
        rw [show wayK 14 = -1 from rfl, E.out]
        exact ⟨⟨rfl, _, HP.out⟩, FP.out⟩
    · have HB := Lib.hid ((H2.out.alloc (.cells #[.int .i64 n, .int .i64 (-1), .bool false] 56)).below (drew_below _))
      have OB : Hid (Open S (((w1.alloc (.cells #[.int .i64 n, .int .i64 (-1), .bool false] 56)).alloc (.cells #[.int .i64 n, .int .i64 (-1), .bool false] 56)).drew)) := Lib.hid (O2.out.on (by show _ ≤ ((w1.alloc (.cells #[.int .i64 n, .int .i64 (-1), .bool false] 56)).alloc (.cells #[.int .i64 n, .int .i64 (-1), .bool false] 56)).heap.size; simp))
      have FB := Lib.hid ((F2.out.trans (Fr.alloc _ (.cells #[.int .i64 n, .int .i64 (-1), .bool false] 56))).trans (Fr.of_below (drew_below _)))
      have RB := Lib.hid (by
        have q := Rd.lit (w1.alloc (.cells #[.int .i64 n, .int .i64 (-1), .bool false] 56)) #[.int .i64 n, .int .i64 (-1), .bool false] 56
        rw [World.size_alloc] at q
        exact q.below (drew_below _) (by simp))
      go_wp2
      go_region_law (refine step_apps (by rfl) _ _ _ rfl 0 Tryz.underlying57 hif hz0 hz1 hz2 rfl (by omega) rfl HB.out.r1.1 rfl (B := w1.heap.size + 1 + 1) (A := some ⟨w1.heap.size + 1, 0, none⟩) (m := 1) (news := [.int .i64 n, .int .i64 (-1), .bool false]) RB.out rfl (by simp [Value.oneCell']) (by omega) (by omega) (by omega) ?_; intro v' w5 o5 g5 a5; obtain ⟨A5, c5, rfl⟩ := own_form o5; have HP := Lib.hid (HB.out.push OB.out ⟨n, -1, false⟩ o5 g5 a5); have FP := Lib.hid ((FB.out.trans (Fr.grown g5 (fun b hb => (HB.out.r1.2 b hb).1))).trans (Fr.set w5 ⟨g, 0, none⟩ (.slice A5 (s.stk.length + 1) c5) HB.out.ing)); have KP : Blk w5 g _ _ := (g5.block g HB.out.blk.lt (fun e => (HB.out.r1.2 g e.symm).2 rfl)).trans HB.out.blk; have x0 := KP.cell 0 (u := .slice A1 s.stk.length c1) rfl; have x1 := KP.frozen 0; clear KP o5 g5 a5)
      all_goals
        go_wp2
        go_end0
        rw [show wayK 15 = -1 from rfl, E.out]
        exact ⟨⟨rfl, _, HP.out⟩, FP.out⟩
    · have HB := Lib.hid ((H2.out.alloc (.cells #[.int .i64 n, .int .i64 (0), .bool false] 56)).below (drew_below _))
      have OB : Hid (Open S (((w1.alloc (.cells #[.int .i64 n, .int .i64 (0), .bool false] 56)).alloc (.cells #[.int .i64 n, .int .i64 (0), .bool false] 56)).drew)) := Lib.hid (O2.out.on (by show _ ≤ ((w1.alloc (.cells #[.int .i64 n, .int .i64 (0), .bool false] 56)).alloc (.cells #[.int .i64 n, .int .i64 (0), .bool false] 56)).heap.size; simp))
      have FB := Lib.hid ((F2.out.trans (Fr.alloc _ (.cells #[.int .i64 n, .int .i64 (0), .bool false] 56))).trans (Fr.of_below (drew_below _)))
      have RB := Lib.hid (by
        have q := Rd.lit (w1.alloc (.cells #[.int .i64 n, .int .i64 (0), .bool false] 56)) #[.int .i64 n, .int .i64 (0), .bool false] 56
        rw [World.size_alloc] at q
        exact q.below (drew_below _) (by simp))
      go_wp2
      go_region_law (refine step_apps (by rfl) _ _ _ rfl 0 Tryz.underlying57 hif hz0 hz1 hz2 rfl (by omega) rfl HB.out.r1.1 rfl (B := w1.heap.size + 1 + 1) (A := some ⟨w1.heap.size + 1, 0, none⟩) (m := 1) (news := [.int .i64 n, .int .i64 (0), .bool false]) RB.out rfl (by simp [Value.oneCell']) (by omega) (by omega) (by omega) ?_; intro v' w5 o5 g5 a5; obtain ⟨A5, c5, rfl⟩ := own_form o5; have HP := Lib.hid (HB.out.push OB.out ⟨n, 0, false⟩ o5 g5 a5); have FP := Lib.hid ((FB.out.trans (Fr.grown g5 (fun b hb => (HB.out.r1.2 b hb).1))).trans (Fr.set w5 ⟨g, 0, none⟩ (.slice A5 (s.stk.length + 1) c5) HB.out.ing)); have KP : Blk w5 g _ _ := (g5.block g HB.out.blk.lt (fun e => (HB.out.r1.2 g e.symm).2 rfl)).trans HB.out.blk; have x0 := KP.cell 0 (u := .slice A1 s.stk.length c1) rfl; have x1 := KP.frozen 0; clear KP o5 g5 a5)
      all_goals
        go_wp2
        go_end0
        rw [show wayK 17 = 0 from rfl, E.out]
        exact ⟨⟨rfl, _, HP.out⟩, FP.out⟩
    · have HB := Lib.hid ((H2.out.alloc (.cells #[.int .i64 n, .int .i64 (1), .bool false] 56)).below (drew_below _))
      have OB : Hid (Open S (((w1.alloc (.cells #[.int .i64 n, .int .i64 (1), .bool false] 56)).alloc (.cells #[.int .i64 n, .int .i64 (1), .bool false] 56)).drew)) := Lib.hid (O2.out.on (by show _ ≤ ((w1.alloc (.cells #[.int .i64 n, .int .i64 (1), .bool false] 56)).alloc (.cells #[.int .i64 n, .int .i64 (1), .bool false] 56)).heap.size; simp))
      have FB := Lib.hid ((F2.out.trans (Fr.alloc _ (.cells #[.int .i64 n, .int .i64 (1), .bool false] 56))).trans (Fr.of_below (drew_below _)))
      have RB := Lib.hid (by
        have q := Rd.lit (w1.alloc (.cells #[.int .i64 n, .int .i64 (1), .bool false] 56)) #[.int .i64 n, .int .i64 (1), .bool false] 56
        rw [World.size_alloc] at q
        exact q.below (drew_below _) (by simp))
      go_wp2
      go_region_law (refine step_apps (by rfl) _ _ _ rfl 0 Tryz.underlying57 hif hz0 hz1 hz2 rfl (by omega) rfl HB.out.r1.1 rfl (B := w1.heap.size + 1 + 1) (A := some ⟨w1.heap.size + 1, 0, none⟩) (m := 1) (news := [.int .i64 n, .int .i64 (1), .bool false]) RB.out rfl (by simp [Value.oneCell']) (by omega) (by omega) (by omega) ?_; intro v' w5 o5 g5 a5; obtain ⟨A5, c5, rfl⟩ := own_form o5; have HP := Lib.hid (HB.out.push OB.out ⟨n, 1, false⟩ o5 g5 a5); have FP := Lib.hid ((FB.out.trans (Fr.grown g5 (fun b hb => (HB.out.r1.2 b hb).1))).trans (Fr.set w5 ⟨g, 0, none⟩ (.slice A5 (s.stk.length + 1) c5) HB.out.ing)); have KP : Blk w5 g _ _ := (g5.block g HB.out.blk.lt (fun e => (HB.out.r1.2 g e.symm).2 rfl)).trans HB.out.blk; have x0 := KP.cell 0 (u := .slice A1 s.stk.length c1) rfl; have x1 := KP.frozen 0; clear KP o5 g5 a5)
      all_goals
        go_wp2
        go_end0
        rw [show wayK 18 = 1 from rfl, E.out]
        exact ⟨⟨rfl, _, HP.out⟩, FP.out⟩
end Go.Proofs.YtcfnhjpmihngdaaGreat
