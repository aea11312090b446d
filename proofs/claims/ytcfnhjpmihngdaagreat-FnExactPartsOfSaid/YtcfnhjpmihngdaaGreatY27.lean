/- Chapter 4: the program's teller: embeddings, what closes them. -/
import Derived.Test.YtcfnhjpmihngdaaGreatY24
import Derived.Test.YtcfnhjpmihngdaaGreatY25
namespace Go.Proofs.YtcfnhjpmihngdaaGreat
open Go.RowKit Go.Maps
attribute [local go_sem] iEntry_lev iEntry_iso

section
variable (w : World) (S : Nat → Prop) (g gs : Nat) (s : Tell) (L C : List Int) (vk vm v1 v2 v3 : Value) (h : TSt w S g gs s L C vk vm v1 v2 v3)
include h
set_option maxRecDepth 100000 in
set_option maxHeartbeats 2000000 in
theorem iOpenEmb_any (hO : Open S w) (i : Nat) (hW : WfT s i) (hi : i ≤ 600) (ks : List Int) (Ak : Option Addr) (ck B : Nat) (hvk : vk = .slice Ak ks.length ck) (hrk : Rd w B Ak (nums .i64 ks)) (hB : B ≤ w.heap.size) (k : Nat) (hk : k < ks.length) (hkl : ks.length ≤ 600) (hE : isEmb (nth ks k)) :
    Calls Tryz.prog 76 #[.pointer (some ⟨g, 0, none⟩), .int .i64 k] w fun e w' => (e = .returned (.tuple #[]) ∧ ∃ u, TSt w' S g gs (embS (leftK (nth ks k)) (wayK (nth ks k)) s) L C vk vm u v2 v3) ∧ Fr S w w' := by
  subst hvk
  obtain ⟨ba, off, rfl, hba, hca⟩ := hrk.int (by omega)
  have hp := hW.pos
  have hl : s.stk.length ≤ 700 := by have := hW.len; omega
  have tp := hW.top
  have hli : s.li ≤ 600 := by have := hW.li; omega
  have hle : s.le ≤ 600 := by have := hW.le; omega
  obtain ⟨q, hq⟩ : ∃ q, Hid (q = nth ks k) := ⟨_, Lib.hid rfl⟩
  rw [← hq.out] at hE ⊢
  have nl := nextN_low (leftK q) (topT s.stk).lev tp.1
  obtain ⟨n, hn⟩ : ∃ n, Hid (n = nextL (leftK q) s.stk) := ⟨_, Lib.hid rfl⟩
  rw [← nextL_eq, ← hn.out] at nl
  have n0 : 0 ≤ n := by omega
  have n1 : n ≤ 127 := by omega
  have tl := tp.1
  have th := tp.2.1
  clear nl tp hW
  have H0 := Lib.hid (h.alloc (.cells #[.int .i64 0, .int .i64 (-1), .bool false] 104))
  have F0 := Lib.hid (Fr.alloc (S := S) w (.cells #[.int .i64 0, .int .i64 (-1), .bool false] 104))
  have O0 := Lib.hid (hO.on (w' := w.alloc (.cells #[.int .i64 0, .int .i64 (-1), .bool false] 104)) (by simp))
  have K0 := Lib.hid (Blk.new w 104 #[.int .i64 0, .int .i64 (-1), .bool false])
  have NG := Lib.hid h.blk.lt
  have NS := Lib.hid h.sbk.lt
  have N1 := Lib.hid h.r1.lt
  have N2 := Lib.hid h.r2.lt
  have N3 := Lib.hid h.r3.lt
  have XS := Lib.hid (hO _ (Nat.le_refl _))
  have c0 := H0.out.blk.cell 0 (u := .slice (some ⟨ba, off, none⟩) ks.length ck) rfl
  have m0 : (w.alloc (.cells #[.int .i64 0, .int .i64 (-1), .bool false] 104)).cell? ⟨ba, off + k, none⟩ = some (.int .i64 q) := by
    rw [hq.out, ← hca k hk]; exact ((Below.refl B w).alloc hB _).cell hba
  have hgl := h.blk.lt
  have hbw : ba < w.heap.size := by omega
  have EN := Lib.hid (show nextL (leftK q) s.stk = n from hn.out.symm)
  clear h hO hca hrk
  have HY : (q = 14 ∧ leftK q = false ∧ wayK q = -1) ∨ (q = 15 ∧ leftK q = true ∧ wayK q = -1) ∨ (q = 17 ∧ leftK q = false ∧ wayK q = 0) ∨ (q = 18 ∧ leftK q = true ∧ wayK q = 1) := by
    unfold isEmb at hE
    rcases hE with rfl | rfl | rfl | rfl
    · exact .inl ⟨rfl, rfl, rfl⟩
    · exact .inr (.inl ⟨rfl, rfl, rfl⟩)
    · exact .inr (.inr (.inl ⟨rfl, rfl, rfl⟩))
    · exact .inr (.inr (.inr ⟨rfl, rfl, rfl⟩))
  clear hE
  rcases HY with ⟨rfl, hL, hY⟩ | ⟨rfl, hL, hY⟩ | ⟨rfl, hL, hY⟩ | ⟨rfl, hL, hY⟩
  · rw [hL] at EN
    go_enter Tryz.func76, Tryz.ntmps76
    go_wp2_with fail
    refine (iNext_any _ S g gs s L C _ _ _ _ _ H0.out hp hl tl (by omega) false).mono ?_
    rintro e w1 ⟨rfl, bl⟩
    rw [EN.out]
    clear c0 m0
    have k1 := K0.out.below bl K0.out.lt
    have H1 := H0.out.below bl
    have F1 := Lib.hid (F0.out.trans (Fr.of_below (S := S) bl))
    have O1 := Lib.hid (O0.out.on bl.size)
    have p0 := k1.cell 0 (u := .int .i64 0) rfl
    have p1 := k1.cell 1 (u := .int .i64 (-1)) rfl
    have f0 := k1.frozen 0
    have f1 := k1.frozen 1
    have n1' : ∀ x, v1.ownBlock = some x → x ≠ w.heap.size := fun x hx => by have := N1.out x hx; omega
    have n2' : ∀ x, v2.ownBlock = some x → x ≠ w.heap.size := fun x hx => by have := N2.out x hx; omega
    have n3' : ∀ x, v3.ownBlock = some x → x ≠ w.heap.size := fun x hx => by have := N3.out x hx; omega
    have ng : g ≠ w.heap.size := by have := NG.out; omega
    have ns : gs ≠ w.heap.size := by have := NS.out; omega
    have H2 := Lib.hid (H1.setB w.heap.size 0 (.int .i64 n) ng ns n1' n2' n3')
    have F2 := Lib.hid (F1.out.trans (Fr.set w1 ⟨w.heap.size, 0, none⟩ (.int .i64 n) XS.out))
    have k2 := k1.set 0 (.int .i64 n)
    have K2 := Lib.hid k2
    have O2 := Lib.hid (O1.out.on (w' := w1.setCell ⟨w.heap.size, 0, none⟩ (.int .i64 n)) (by simp))
    have p0 := k2.cell 0 (u := .int .i64 n) rfl
    have p1 := k2.cell 1 (u := .int .i64 (-1)) rfl
    have p2 := k2.cell 2 (u := .bool false) rfl
    clear k1 H1 F1 O1 k2 bl n1' n2' n3'
    go_wp2_with fail
    refine (iRoom_any _ S g gs s L C _ _ _ _ _ H2.out hli hle n (-1) false n0 (by omega)).mono ?_
    rintro e w3 ⟨rfl, b3⟩
    have H3 := Lib.hid (H2.out.below b3)
    have F3 := Lib.hid (F2.out.trans (Fr.of_below (S := S) b3))
    have O3 := Lib.hid (O2.out.on b3.size)
    have k3 := K2.out.below b3 K2.out.lt
    clear p0 p1 p2 f0 f1 H2 F2 O2 K2 b3
    by_cases hF : Full n s
    · rw [show decide (¬ Full n s) = false by simp [hF]]
      have e3 := H3.out.blk.cell 3 (u := .int .i64 s.li) rfl
      have e4 := H3.out.blk.cell 4 (u := .int .i64 s.le) rfl
      have f4 := H3.out.blk.frozen 4
      clear k3
      by_cases h0 : s.li = 0
      · have E := Lib.hid (show embS (leftK 14) (wayK 14) s = ⟨s.stk, s.li, s.le + 1, s.is⟩ by rw [hL, embS_full EN.out hF, if_pos h0])
        have H4 := Lib.hid (H3.out.num 4 ((s.le : Int) + 1) ⟨s.stk, s.li, s.le + 1, s.is⟩ rfl rfl)
        have F4 := Lib.hid (F3.out.trans (Fr.set w3 ⟨g, 4, none⟩ (.int .i64 ((s.le : Int) + 1)) H3.out.ing))
        clear hF
        go_wp2
        go_end0
        rw [E.out]
        exact ⟨⟨rfl, _, H4.out⟩, F4.out⟩
      · have E := Lib.hid (show embS (leftK 14) (wayK 14) s = s by rw [hL, embS_full EN.out hF, if_neg h0])
        have n6 : ((s.li : Int) == 0) = false := by simp; omega
        clear hF
        go_wp2
        go_end0
        rw [E.out]
        exact ⟨⟨rfl, _, H3.out⟩, F3.out⟩
    · rw [show decide (¬ Full n s) = true by simp [hF]]
      have E := Lib.hid (show embS (leftK 14) (wayK 14) s = ⟨s.stk ++ [⟨n, -1, false⟩], s.li, s.le, s.is⟩ by rw [hL, hY, embS_room EN.out hF])
      have e2 := H3.out.blk.cell 2 (u := .pointer (some ⟨gs, 0, none⟩)) rfl
      have p0 := k3.cell 0 (u := .int .i64 n) rfl
      have p1 := k3.cell 1 (u := .int .i64 (-1)) rfl
      have p2 := k3.cell 2 (u := .bool false) rfl
      clear hF k3
      go_wp2
      go_region_with (go_at_call 72; refine (iPut_any _ S g gs s L C _ _ _ _ _ (by first | exact H3.out | exact H3.out.below (drew_below _)) (by first | exact O3.out | exact O3.out.on (drew_below _).size) hl n (-1) false).mono ?_; rintro e w4 ⟨⟨rfl, u4, h4⟩, f4⟩; have H4 := Lib.hid h4; have F4 := Lib.hid f4; clear h4 f4)
      all_goals
        go_wp2
        go_end0
        rw [E.out]
        exact ⟨⟨rfl, _, H4.out⟩, by first | exact F3.out.trans F4.out | exact (F3.out.trans (Fr.of_below (drew_below _))).trans F4.out⟩
  · rw [hL] at EN
    go_enter Tryz.func76, Tryz.ntmps76
    go_wp2_with fail
    refine (iNext_any _ S g gs s L C _ _ _ _ _ H0.out hp hl tl (by omega) true).mono ?_
    rintro e w1 ⟨rfl, bl⟩
    rw [EN.out]
    clear c0 m0
    have k1 := K0.out.below bl K0.out.lt
    have H1 := H0.out.below bl
    have F1 := Lib.hid (F0.out.trans (Fr.of_below (S := S) bl))
    have O1 := Lib.hid (O0.out.on bl.size)
    have p0 := k1.cell 0 (u := .int .i64 0) rfl
    have p1 := k1.cell 1 (u := .int .i64 (-1)) rfl
    have f0 := k1.frozen 0
    have f1 := k1.frozen 1
    have n1' : ∀ x, v1.ownBlock = some x → x ≠ w.heap.size := fun x hx => by have := N1.out x hx; omega
    have n2' : ∀ x, v2.ownBlock = some x → x ≠ w.heap.size := fun x hx => by have := N2.out x hx; omega
    have n3' : ∀ x, v3.ownBlock = some x → x ≠ w.heap.size := fun x hx => by have := N3.out x hx; omega
    have ng : g ≠ w.heap.size := by have := NG.out; omega
    have ns : gs ≠ w.heap.size := by have := NS.out; omega
    have H2 := Lib.hid (H1.setB w.heap.size 0 (.int .i64 n) ng ns n1' n2' n3')
    have F2 := Lib.hid (F1.out.trans (Fr.set w1 ⟨w.heap.size, 0, none⟩ (.int .i64 n) XS.out))
    have k2 := k1.set 0 (.int .i64 n)
    have K2 := Lib.hid k2
    have O2 := Lib.hid (O1.out.on (w' := w1.setCell ⟨w.heap.size, 0, none⟩ (.int .i64 n)) (by simp))
    have p0 := k2.cell 0 (u := .int .i64 n) rfl
    have p1 := k2.cell 1 (u := .int .i64 (-1)) rfl
    have p2 := k2.cell 2 (u := .bool false) rfl
    clear k1 H1 F1 O1 k2 bl n1' n2' n3'
    go_wp2_with fail
    refine (iRoom_any _ S g gs s L C _ _ _ _ _ H2.out hli hle n (-1) false n0 (by omega)).mono ?_
    rintro e w3 ⟨rfl, b3⟩
    have H3 := Lib.hid (H2.out.below b3)
    have F3 := Lib.hid (F2.out.trans (Fr.of_below (S := S) b3))
    have O3 := Lib.hid (O2.out.on b3.size)
    have k3 := K2.out.below b3 K2.out.lt
    clear p0 p1 p2 f0 f1 H2 F2 O2 K2 b3
    by_cases hF : Full n s
    · rw [show decide (¬ Full n s) = false by simp [hF]]
      have e3 := H3.out.blk.cell 3 (u := .int .i64 s.li) rfl
      have e4 := H3.out.blk.cell 4 (u := .int .i64 s.le) rfl
      have f4 := H3.out.blk.frozen 4
      clear k3
      by_cases h0 : s.li = 0
      · have E := Lib.hid (show embS (leftK 15) (wayK 15) s = ⟨s.stk, s.li, s.le + 1, s.is⟩ by rw [hL, embS_full EN.out hF, if_pos h0])
        have H4 := Lib.hid (H3.out.num 4 ((s.le : Int) + 1) ⟨s.stk, s.li, s.le + 1, s.is⟩ rfl rfl)
        have F4 := Lib.hid (F3.out.trans (Fr.set w3 ⟨g, 4, none⟩ (.int .i64 ((s.le : Int) + 1)) H3.out.ing))
        clear hF
        go_wp2
        go_end0
        rw [E.out]
        exact ⟨⟨rfl, _, H4.out⟩, F4.out⟩
      · have E := Lib.hid (show embS (leftK 15) (wayK 15) s = s by rw [hL, embS_full EN.out hF, if_neg h0])
        have n6 : ((s.li : Int) == 0) = false := by simp; omega
        clear hF
        go_wp2
        go_end0
        rw [E.out]
        exact ⟨⟨rfl, _, H3.out⟩, F3.out⟩
    · rw [show decide (¬ Full n s) = true by simp [hF]]
      have E := Lib.hid (show embS (leftK 15) (wayK 15) s = ⟨s.stk ++ [⟨n, -1, false⟩], s.li, s.le, s.is⟩ by rw [hL, hY, embS_room EN.out hF])
      have e2 := H3.out.blk.cell 2 (u := .pointer (some ⟨gs, 0, none⟩)) rfl
      have p0 := k3.cell 0 (u := .int .i64 n) rfl
      have p1 := k3.cell 1 (u := .int .i64 (-1)) rfl
      have p2 := k3.cell 2 (u := .bool false) rfl
      clear hF k3
      go_wp2
      go_region_with (go_at_call 72; refine (iPut_any _ S g gs s L C _ _ _ _ _ (by first | exact H3.out | exact H3.out.below (drew_below _)) (by first | exact O3.out | exact O3.out.on (drew_below _).size) hl n (-1) false).mono ?_; rintro e w4 ⟨⟨rfl, u4, h4⟩, f4⟩; have H4 := Lib.hid h4; have F4 := Lib.hid f4; clear h4 f4)
      all_goals
        go_wp2
        go_end0
        rw [E.out]
        exact ⟨⟨rfl, _, H4.out⟩, by first | exact F3.out.trans F4.out | exact (F3.out.trans (Fr.of_below (drew_below _))).trans F4.out⟩
  · rw [hL] at EN
    go_enter Tryz.func76, Tryz.ntmps76
    go_wp2_with fail
    refine (iNext_any _ S g gs s L C _ _ _ _ _ H0.out hp hl tl (by omega) false).mono ?_
    rintro e w1 ⟨rfl, bl⟩
    rw [EN.out]
    clear c0 m0
    have k1 := K0.out.below bl K0.out.lt
    have H1 := H0.out.below bl
    have F1 := Lib.hid (F0.out.trans (Fr.of_below (S := S) bl))
    have O1 := Lib.hid (O0.out.on bl.size)
    have p0 := k1.cell 0 (u := .int .i64 0) rfl
    have p1 := k1.cell 1 (u := .int .i64 (-1)) rfl
    have f0 := k1.frozen 0
    have f1 := k1.frozen 1
    have n1' : ∀ x, v1.ownBlock = some x → x ≠ w.heap.size := fun x hx => by have := N1.out x hx; omega
    have n2' : ∀ x, v2.ownBlock = some x → x ≠ w.heap.size := fun x hx => by have := N2.out x hx; omega
    have n3' : ∀ x, v3.ownBlock = some x → x ≠ w.heap.size := fun x hx => by have := N3.out x hx; omega
    have ng : g ≠ w.heap.size := by have := NG.out; omega
    have ns : gs ≠ w.heap.size := by have := NS.out; omega
    have H2 := Lib.hid ((H1.setB w.heap.size 0 (.int .i64 n) ng ns n1' n2' n3').setB w.heap.size 1 (.int .i64 0) ng ns n1' n2' n3')
    have F2 := Lib.hid ((F1.out.trans (Fr.set w1 ⟨w.heap.size, 0, none⟩ (.int .i64 n) XS.out)).trans (Fr.set _ ⟨w.heap.size, 1, none⟩ (.int .i64 0) XS.out))
    have k2 := (k1.set 0 (.int .i64 n)).set 1 (.int .i64 0)
    have K2 := Lib.hid k2
    have O2 := Lib.hid (O1.out.on (w' := (w1.setCell ⟨w.heap.size, 0, none⟩ (.int .i64 n)).setCell ⟨w.heap.size, 1, none⟩ (.int .i64 0)) (by simp))
    have p0 := k2.cell 0 (u := .int .i64 n) rfl
    have p1 := k2.cell 1 (u := .int .i64 (0)) rfl
    have p2 := k2.cell 2 (u := .bool false) rfl
    clear k1 H1 F1 O1 k2 bl n1' n2' n3'
    go_wp2_with fail
    refine (iRoom_any _ S g gs s L C _ _ _ _ _ H2.out hli hle n (0) false n0 (by omega)).mono ?_
    rintro e w3 ⟨rfl, b3⟩
    have H3 := Lib.hid (H2.out.below b3)
    have F3 := Lib.hid (F2.out.trans (Fr.of_below (S := S) b3))
    have O3 := Lib.hid (O2.out.on b3.size)
    have k3 := K2.out.below b3 K2.out.lt
    clear p0 p1 p2 f0 f1 H2 F2 O2 K2 b3
    by_cases hF : Full n s
    · rw [show decide (¬ Full n s) = false by simp [hF]]
      have e3 := H3.out.blk.cell 3 (u := .int .i64 s.li) rfl
      have e4 := H3.out.blk.cell 4 (u := .int .i64 s.le) rfl
      have f4 := H3.out.blk.frozen 4
      clear k3
      by_cases h0 : s.li = 0
      · have E := Lib.hid (show embS (leftK 17) (wayK 17) s = ⟨s.stk, s.li, s.le + 1, s.is⟩ by rw [hL, embS_full EN.out hF, if_pos h0])
        have H4 := Lib.hid (H3.out.num 4 ((s.le : Int) + 1) ⟨s.stk, s.li, s.le + 1, s.is⟩ rfl rfl)
        have F4 := Lib.hid (F3.out.trans (Fr.set w3 ⟨g, 4, none⟩ (.int .i64 ((s.le : Int) + 1)) H3.out.ing))
        clear hF
        go_wp2
        go_end0
        rw [E.out]
        exact ⟨⟨rfl, _, H4.out⟩, F4.out⟩
      · have E := Lib.hid (show embS (leftK 17) (wayK 17) s = s by rw [hL, embS_full EN.out hF, if_neg h0])
        have n6 : ((s.li : Int) == 0) = false := by simp; omega
        clear hF
        go_wp2
        go_end0
        rw [E.out]
        exact ⟨⟨rfl, _, H3.out⟩, F3.out⟩
    · rw [show decide (¬ Full n s) = true by simp [hF]]
      have E := Lib.hid (show embS (leftK 17) (wayK 17) s = ⟨s.stk ++ [⟨n, 0, false⟩], s.li, s.le, s.is⟩ by rw [hL, hY, embS_room EN.out hF])
      have e2 := H3.out.blk.cell 2 (u := .pointer (some ⟨gs, 0, none⟩)) rfl
      have p0 := k3.cell 0 (u := .int .i64 n) rfl
      have p1 := k3.cell 1 (u := .int .i64 (0)) rfl
      have p2 := k3.cell 2 (u := .bool false) rfl
      clear hF k3
      go_wp2
      go_region_with (go_at_call 72; refine (iPut_any _ S g gs s L C _ _ _ _ _ (by first | exact H3.out | exact H3.out.below (drew_below _)) (by first | exact O3.out | exact O3.out.on (drew_below _).size) hl n (0) false).mono ?_; rintro e w4 ⟨⟨rfl, u4, h4⟩, f4⟩; have H4 := Lib.hid h4; have F4 := Lib.hid f4; clear h4 f4)
      all_goals
        go_wp2
        go_end0
        rw [E.out]
        exact ⟨⟨rfl, _, H4.out⟩, by first | exact F3.out.trans F4.out | exact (F3.out.trans (Fr.of_below (drew_below _))).trans F4.out⟩
  · rw [hL] at EN
    go_enter Tryz.func76, Tryz.ntmps76
    go_wp2_with fail
    refine (iNext_any _ S g gs s L C _ _ _ _ _ H0.out hp hl tl (by omega) true).mono ?_
    rintro e w1 ⟨rfl, bl⟩
    rw [EN.out]
    clear c0 m0
    have k1 := K0.out.below bl K0.out.lt
    have H1 := H0.out.below bl
    have F1 := Lib.hid (F0.out.trans (Fr.of_below (S := S) bl))
    have O1 := Lib.hid (O0.out.on bl.size)
    have p0 := k1.cell 0 (u := .int .i64 0) rfl
    have p1 := k1.cell 1 (u := .int .i64 (-1)) rfl
    have f0 := k1.frozen 0
    have f1 := k1.frozen 1
    have n1' : ∀ x, v1.ownBlock = some x → x ≠ w.heap.size := fun x hx => by have := N1.out x hx; omega
    have n2' : ∀ x, v2.ownBlock = some x → x ≠ w.heap.size := fun x hx => by have := N2.out x hx; omega
    have n3' : ∀ x, v3.ownBlock = some x → x ≠ w.heap.size := fun x hx => by have := N3.out x hx; omega
    have ng : g ≠ w.heap.size := by have := NG.out; omega
    have ns : gs ≠ w.heap.size := by have := NS.out; omega
    have H2 := Lib.hid ((H1.setB w.heap.size 0 (.int .i64 n) ng ns n1' n2' n3').setB w.heap.size 1 (.int .i64 1) ng ns n1' n2' n3')
    have F2 := Lib.hid ((F1.out.trans (Fr.set w1 ⟨w.heap.size, 0, none⟩ (.int .i64 n) XS.out)).trans (Fr.set _ ⟨w.heap.size, 1, none⟩ (.int .i64 1) XS.out))
    have k2 := (k1.set 0 (.int .i64 n)).set 1 (.int .i64 1)
    have K2 := Lib.hid k2
    have O2 := Lib.hid (O1.out.on (w' := (w1.setCell ⟨w.heap.size, 0, none⟩ (.int .i64 n)).setCell ⟨w.heap.size, 1, none⟩ (.int .i64 1)) (by simp))
    have p0 := k2.cell 0 (u := .int .i64 n) rfl
    have p1 := k2.cell 1 (u := .int .i64 (1)) rfl
    have p2 := k2.cell 2 (u := .bool false) rfl
    clear k1 H1 F1 O1 k2 bl n1' n2' n3'
    go_wp2_with fail
    refine (iRoom_any _ S g gs s L C _ _ _ _ _ H2.out hli hle n (1) false n0 (by omega)).mono ?_
    rintro e w3 ⟨rfl, b3⟩
    have H3 := Lib.hid (H2.out.below b3)
    have F3 := Lib.hid (F2.out.trans (Fr.of_below (S := S) b3))
    have O3 := Lib.hid (O2.out.on b3.size)
    have k3 := K2.out.below b3 K2.out.lt
    clear p0 p1 p2 f0 f1 H2 F2 O2 K2 b3
    by_cases hF : Full n s
    · rw [show decide (¬ Full n s) = false by simp [hF]]
      have e3 := H3.out.blk.cell 3 (u := .int .i64 s.li) rfl
      have e4 := H3.out.blk.cell 4 (u := .int .i64 s.le) rfl
      have f4 := H3.out.blk.frozen 4
      clear k3
      by_cases h0 : s.li = 0
      · have E := Lib.hid (show embS (leftK 18) (wayK 18) s = ⟨s.stk, s.li, s.le + 1, s.is⟩ by rw [hL, embS_full EN.out hF, if_pos h0])
        have H4 := Lib.hid (H3.out.num 4 ((s.le : Int) + 1) ⟨s.stk, s.li, s.le + 1, s.is⟩ rfl rfl)
        have F4 := Lib.hid (F3.out.trans (Fr.set w3 ⟨g, 4, none⟩ (.int .i64 ((s.le : Int) + 1)) H3.out.ing))
        clear hF
        go_wp2
        go_end0
        rw [E.out]
        exact ⟨⟨rfl, _, H4.out⟩, F4.out⟩
      · have E := Lib.hid (show embS (leftK 18) (wayK 18) s = s by rw [hL, embS_full EN.out hF, if_neg h0])
        have n6 : ((s.li : Int) == 0) = false := by simp; omega
        clear hF
        go_wp2
        go_end0
        rw [E.out]
        exact ⟨⟨rfl, _, H3.out⟩, F3.out⟩
    · rw [show decide (¬ Full n s) = true by simp [hF]]
      have E := Lib.hid (show embS (leftK 18) (wayK 18) s = ⟨s.stk ++ [⟨n, 1, false⟩], s.li, s.le, s.is⟩ by rw [hL, hY, embS_room EN.out hF])
      have e2 := H3.out.blk.cell 2 (u := .pointer (some ⟨gs, 0, none⟩)) rfl
      have p0 := k3.cell 0 (u := .int .i64 n) rfl
      have p1 := k3.cell 1 (u := .int .i64 (1)) rfl
      have p2 := k3.cell 2 (u := .bool false) rfl
      clear hF k3
      go_wp2
      go_region_with (go_at_call 72; refine (iPut_any _ S g gs s L C _ _ _ _ _ (by first | exact H3.out | exact H3.out.below (drew_below _)) (by first | exact O3.out | exact O3.out.on (drew_below _).size) hl n (1) false).mono ?_; rintro e w4 ⟨⟨rfl, u4, h4⟩, f4⟩; have H4 := Lib.hid h4; have F4 := Lib.hid f4; clear h4 f4)
      all_goals
        go_wp2
        go_end0
        rw [E.out]
        exact ⟨⟨rfl, _, H4.out⟩, by first | exact F3.out.trans F4.out | exact (F3.out.trans (Fr.of_below (drew_below _))).trans F4.out⟩
set_option maxRecDepth 100000 in
set_option maxHeartbeats 1000000 in
theorem iCloseEmb_any (hO : Open S w) (i : Nat) (hW : WfT s i) (hi : i ≤ 600) (k : Nat) :
    Calls Tryz.prog 79 #[.pointer (some ⟨g, 0, none⟩), .int .i64 k] w fun e w' => (e = .returned (.tuple #[]) ∧ ∃ u, TSt w' S g gs (popS s) L C vk vm u v2 v3) ∧ Fr S w w' := by
  have hp := hW.pos
  have hl : s.stk.length ≤ 700 := by have := hW.len; omega
  have hli : s.li ≤ 600 := by have := hW.li; omega
  have hle : s.le ≤ 600 := by have := hW.le; omega
  have H := Lib.hid h
  have e1 := h.blk.cell 3 (u := .int .i64 s.li) rfl
  have e2 := h.blk.cell 4 (u := .int .i64 s.le) rfl
  have ep := h.blk.cell 2 (u := .pointer (some ⟨gs, 0, none⟩)) rfl
  have f2 := h.blk.frozen 4
  have hgl := h.blk.lt
  clear h hW
  by_cases h0 : 0 < s.li
  · have E := Lib.hid (popS_a h0)
    go_enter Tryz.func79, Tryz.ntmps79
    go_wp2
    go_end0
    rw [E.out]
    exact ⟨⟨rfl, _, H.out⟩, Fr.refl _ _⟩
  · by_cases h2 : 0 < s.le
    · have E := Lib.hid (popS_b h0 h2)
      have ec : ((s.le - 1 : Nat) : Int) = (s.le : Int) - 1 := by omega
      have H2 := Lib.hid (H.out.num 4 ((s.le : Int) - 1) ⟨s.stk, s.li, s.le - 1, s.is⟩ rfl (by simp [ec]))
      have F2 := Lib.hid (Fr.set w ⟨g, 4, none⟩ (.int .i64 ((s.le : Int) - 1)) H.out.ing)
      clear ec
      go_enter Tryz.func79, Tryz.ntmps79
      go_wp2
      go_end0
      rw [E.out]
      exact ⟨⟨rfl, _, H2.out⟩, F2.out⟩
    · have h3 : s.li = 0 := by omega
      have h4 : s.le = 0 := by omega
      have EC := Lib.hid (popS_c (s := s) h0 h2)
      have ED := Lib.hid (popS_d (s := s) h0 h2)
      have HO := Lib.hid hO
      clear h0 h2 hO
      go_enter Tryz.func79, Tryz.ntmps79
      go_wp2_with fail
      refine (iLast_any w S g gs s L C _ _ _ _ _ H.out hp hl).mono ?_
      rintro e w1 ⟨rfl, bl⟩
      have h1 := H.out.below bl
      have F1 := Lib.hid (Fr.of_below (S := S) bl)
      have ep := h1.blk.cell 2 (u := .pointer (some ⟨gs, 0, none⟩)) rfl
      have O1 := Lib.hid (HO.out.on bl.size)
      have hgl1 := h1.blk.lt
      have H1 := Lib.hid h1
      clear h1 bl e1 e2 f2
      cases hiso : (topT s.stk).iso with
      | true =>
        have E := Lib.hid (ED.out (by rw [hiso]; simp))
        clear hiso
        go_wp2
        go_end0
        rw [E.out]
        exact ⟨⟨rfl, _, H1.out⟩, F1.out⟩
      | false =>
        by_cases h1l : 1 < s.stk.length
        · have E := Lib.hid (EC.out ⟨hiso, h1l⟩)
          clear hiso
          go_wp2_with (go_at_call 99; refine (iSize_any w1 S g gs s L C _ _ _ _ _ H1.out hl).mono ?_; rintro e w' ⟨rfl, rfl⟩)
          refine (iTakeOff_any w1 S g gs s L C _ _ _ _ _ H1.out (O1.out _ (Nat.le_refl _)) hp hl).mono ?_
          rintro e w2 ⟨⟨rfl, u, h2⟩, f2⟩
          have H2 := Lib.hid h2
          have F2 := Lib.hid (F1.out.trans f2)
          clear h2 f2
          go_wp2
          go_end0
          rw [E.out]
          exact ⟨⟨rfl, _, H2.out⟩, F2.out⟩
        · have E := Lib.hid (ED.out (fun k => h1l k.2))
          have h1e : s.stk.length = 1 := by omega
          clear hiso h1l
          go_wp2_with (go_at_call 99; refine (iSize_any w1 S g gs s L C _ _ _ _ _ H1.out hl).mono ?_; rintro e w' ⟨rfl, rfl⟩)
          go_end0
          rw [E.out]
          exact ⟨⟨rfl, _, H1.out⟩, F1.out⟩
end
end Go.Proofs.YtcfnhjpmihngdaaGreat
