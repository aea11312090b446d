/- Chapter 4: the model's state: isolates. -/
import Derived.Test.YtmcmfklkljehiaaGreatY19
namespace Go.Proofs.YtmcmfklkljehiaaGreat
open Go.RowKit Go.Maps
attribute [local go_sem] sEntry_lev sEntry_iso

set_option maxRecDepth 100000 in
set_option maxHeartbeats 1000000 in
theorem sIsolate_any (w : World) (S : Nat → Prop) (g : Nat) (s : Tell) (L C : List Int) (v1 v2 v3 : Value) (h : MSt w S g s L C v1 v2 v3) (hO : Open S w) (i : Nat) (hW : WfT s i) (hi : i ≤ 600) (k : Int) :
    Calls Tryz.prog 59 #[.pointer (some ⟨g, 0, none⟩), .int .i64 k] w fun e w' => (e = .returned (.tuple #[]) ∧ ∃ u, MSt w' S g (isoS (leftQ k) s) L C u v2 v3) ∧ Fr S w w' := by
  obtain ⟨i0, hif, hz0, hz1, hz2⟩ := info_parts info_sEntry
  have hp := hW.pos
  have hl : s.stk.length ≤ 700 := by have := hW.len; omega
  have tp := hW.top
  have nl := nextN_low (leftQ k) (topT s.stk).lev tp.1
  have hEN : nextL (leftQ k) s.stk = nextN (leftQ k) (topT s.stk).lev := nextL_eq _ _
  have hli : s.li ≤ 600 := by have := hW.li; omega
  have hle : s.le ≤ 600 := by have := hW.le; omega
  have his : s.is ≤ 600 := by have := hW.is; omega
  obtain ⟨n, hn⟩ : ∃ n, Hid (n = nextN (leftQ k) (topT s.stk).lev) := ⟨_, Lib.hid rfl⟩
  rw [← hn.out] at hEN nl
  have n0 : 0 ≤ n := by omega
  have n1 : n ≤ 127 := by omega
  have tl := tp.1
  have th := tp.2.1
  clear nl tp
  have HEN := Lib.hid hEN
  clear hEN
  go_enter Tryz.func59, Tryz.ntmps59
  go_wp2_with fail
  refine (sLast_any w S g s L C _ _ _ h hp hl).mono ?_
  rintro e w1 ⟨rfl, bl⟩
  have h1 := h.below bl
  have O1 := Lib.hid (hO.on bl.size)
  have F1 := Lib.hid (Fr.of_below (S := S) bl)
  clear bl h hO
  go_wp2_with fail
  refine (sNext_any k _ w1 tl (by omega)).mono ?_
  rintro e w' ⟨rfl, rfl⟩
  rw [← hn.out]
  have H1 := Lib.hid h1
  have e1 := h1.blk.cell 1 (u := .int .i64 s.li) rfl
  have e2 := h1.blk.cell 2 (u := .int .i64 s.le) rfl
  have e3 := h1.blk.cell 3 (u := .int .i64 s.is) rfl
  have f1 := h1.blk.frozen 1
  have f3 := h1.blk.frozen 3
  have hgl := h1.blk.lt
  clear h1 hW
  by_cases hF : Full n s
  · have E := Lib.hid (isoS_full HEN.out hF)
    have h2 := Lib.hid (H1.out.num 1 (s.li + 1) ⟨s.stk, s.li + 1, s.le, s.is⟩ rfl rfl)
    have F2 := Lib.hid (F1.out.trans (Fr.set w1 ⟨g, 1, none⟩ (.int .i64 ((s.li + 1 : Nat) : Int)) H1.out.ing))
    by_cases h5 : 125 < n
    · clear hF
      go_wp2
      refine bodyPost_ret (results_none rfl _ _ _) rfl ?_
      rw [E.out]
      exact ⟨⟨rfl, _, h2.out⟩, F2.out⟩
    · by_cases h0 : 0 < s.li
      · clear hF
        go_wp2
        refine bodyPost_ret (results_none rfl _ _ _) rfl ?_
        rw [E.out]
        exact ⟨⟨rfl, _, h2.out⟩, F2.out⟩
      · have h00 : s.li = 0 := by omega
        have hl0 : 0 < s.le := by unfold Full at hF; omega
        have e10 : ((s.li + 1 : Nat) : Int) = 1 := by omega
        rw [e10] at h2 F2
        clear hF
        go_wp2
        refine bodyPost_ret (results_none rfl _ _ _) rfl ?_
        rw [E.out]
        exact ⟨⟨rfl, _, h2.out⟩, F2.out⟩
  · have E := Lib.hid (isoS_room HEN.out hF)
    have h5 : ¬ 125 < n := by unfold Full at hF; omega
    have h6 : s.li = 0 := by unfold Full at hF; omega
    have h7 : s.le = 0 := by unfold Full at hF; omega
    have hln : s.stk.length + 1 ≤ 701 := by omega
    obtain ⟨A1, c1, rfl⟩ := H1.out.r1.form
    have H2 := Lib.hid (H1.out.num 3 (s.is + 1) ⟨s.stk, s.li, s.le, s.is + 1⟩ rfl rfl)
    have F2 := Lib.hid (F1.out.trans (Fr.set w1 ⟨g, 3, none⟩ (.int .i64 ((s.is + 1 : Nat) : Int)) H1.out.ing))
    have O2 : Hid (Open S (w1.setCell ⟨g, 3, none⟩ (.int .i64 ((s.is + 1 : Nat) : Int)))) := Lib.hid (O1.out.on (by simp))
    obtain ⟨w2, hw2⟩ : ∃ x, Hid (x = w1.setCell ⟨g, 3, none⟩ (.int .i64 ((s.is + 1 : Nat) : Int))) := ⟨_, Lib.hid rfl⟩
    rw [← hw2.out] at H2 F2 O2
    have s2 : w2.heap.size = w1.heap.size := by rw [hw2.out]; simp
    have hgl2 : g < w2.heap.size := by omega
    have HB := Lib.hid (H2.out.alloc (.cells #[.int .i64 n, .int .i64 (-1), .bool true] 90))
    have OB : Hid (Open S (w2.alloc (.cells #[.int .i64 n, .int .i64 (-1), .bool true] 90))) := Lib.hid (O2.out.on (by simp))
    have FB := Lib.hid (F2.out.trans (Fr.alloc _ (.cells #[.int .i64 n, .int .i64 (-1), .bool true] 90)))
    have RB := Lib.hid (Rd.lit w2 #[.int .i64 n, .int .i64 (-1), .bool true] 90)
    rw [hw2.out] at HB OB FB RB
    rw [World.size_setCell] at RB
    have e0 := H2.out.blk.cell 0 (u := .slice A1 s.stk.length c1) rfl
    rw [hw2.out] at e0
    have ec : ((s.is + 1 : Nat) : Int) = (s.is : Int) + 1 := by omega
    rw [ec] at e0 HB OB FB RB
    have RR : Hid (World.ownsRow _ 0 _ 3 (.slice A1 s.stk.length c1) s.stk.length (tcells s.stk)) := Lib.hid HB.out.r1.1
    have RI : Hid (∀ b, (Value.slice A1 s.stk.length c1).ownBlock = some b → S b ∧ b ≠ g) := Lib.hid HB.out.r1.2
    clear ec
    have S2 := Lib.hid s2
    clear hF s2 hgl2
    go_wp2_with (at_builtin; go_loud (refine wpList_app rfl _ _ _ rfl 0 Tryz.underlying91 hif hz0 hz1 hz2 rfl (by omega) rfl RR.out rfl (B := w1.heap.size + 1) (A := some ⟨w1.heap.size, 0, none⟩) (m := 1) (news := [.int .i64 n, .int .i64 (-1), .bool true]) RB.out rfl (by simp [Value.oneCell']) (by omega) (by omega) (by omega) ?_); intro v' w5 o5 g5 a5; obtain ⟨A5, c5, rfl⟩ := own_form o5; have HP := Lib.hid (HB.out.push OB.out ⟨n, -1, true⟩ o5 g5 a5); have FP := Lib.hid ((FB.out.trans (Fr.grown g5 (fun b hb => (RI.out b hb).1))).trans (Fr.set w5 ⟨g, 0, none⟩ (.slice A5 (s.stk.length + 1) c5) HB.out.ing)); have KP : Blk w5 g _ _ := (g5.block g HB.out.blk.lt (fun e => (RI.out g e.symm).2 rfl)).trans HB.out.blk; have x0 := KP.cell 0 (u := .slice A1 s.stk.length c1) rfl; have x1 := KP.frozen 0; clear KP o5 g5 a5)
    all_goals
      go_wp2
      go_end0
      rw [E.out]
      exact ⟨⟨rfl, _, HP.out⟩, FP.out⟩
end Go.Proofs.YtmcmfklkljehiaaGreat
