/- Chapter 4: the model's levels that are told: its loop. -/
import Derived.Test.YtcfnhjpmihngdaaGreatY26
namespace Go.Proofs.YtcfnhjpmihngdaaGreat
open Go.RowKit Go.Maps

theorem Own.fr {S : Nat → Prop} {w w' : World} {lo hi : Nat} {t : TypeId} {kd : IntKind} {v : Value} {zs : List Int} (h : Own w lo hi t kd v zs) (hf : Fr S w w') (hS : ∀ k, lo ≤ k → k < hi → ¬ S k) : Own w' lo hi t kd v zs :=
  h.keep fun k hk h1 h2 => hf.block k hk (hS k h1 h2)
theorem Row.up {w : World} {S : Nat → Prop} {g : Nat} {t : TypeId} {v : Value} {zs : List Int} {lo : Nat} (h : Row w S g t 1 v zs.length (nums .i64 zs)) (hlo : ∀ b, v.ownBlock = some b → lo ≤ b) : Own w lo w.heap.size t .i64 v zs := by
  refine ⟨⟨h.1.1, ?_⟩, h.lt⟩
  rcases h.1.2 with hn | ⟨b, cap, cur, rfl, hb, rest⟩
  · exact .inl hn
  · exact .inr ⟨b, cap, cur, rfl, hlo b rfl, rest⟩
/-- what the walk reads and does not turn -/
structure Side (w : World) (S : Nat → Prop) (lo hi B : Nat) (t : TypeId) (vm : Value) (ks : List Int) (A : Option Addr) (zs : List Int) : Prop where
  own : Own w lo hi t .i64 vm (matchN ks)
  rd : Rd w B A (nums .i64 zs)
  op : Open S w
  sB : ∀ k, k < B → ¬ S k
  sM : ∀ k, lo ≤ k → k < hi → ¬ S k
  bw : B ≤ w.heap.size
theorem Side.fr {S : Nat → Prop} {w w' : World} {lo hi B : Nat} {t : TypeId} {vm : Value} {ks : List Int} {A : Option Addr} {zs : List Int} (h : Side w S lo hi B t vm ks A zs) (hf : Fr S w w') : Side w' S lo hi B t vm ks A zs :=
  ⟨h.own.fr hf h.sM, h.rd.fr hf h.bw h.sB, h.op.on hf.size, h.sB, h.sM, Nat.le_trans h.bw hf.size⟩
theorem leftOf_19 {ks : List Int} {k : Nat} (h : nth ks k = 19) : leftKs ks k = leftQ 19 := by unfold leftKs; rw [h]; rfl
theorem leftOf_20 {ks : List Int} {k : Nat} (h : nth ks k = 20) : leftKs ks k = leftQ 20 := by unfold leftKs; rw [h]; rfl
theorem leftOf_q {ks : List Int} {k : Nat} (h : nth ks k = 19 ∨ nth ks k = 20) : leftKs ks k = leftQ (nth ks k) := by
  rcases h with h | h
  · rw [leftOf_19 h, h]
  · rw [leftOf_20 h, h]
theorem leftOf_21 {ks : List Int} {k : Nat} (h : nth ks k = 21) : leftKs ks k = leftQ (if ownWay ks k = 1 then 20 else 19) := by
  unfold leftKs; rw [if_pos h]
  split
  · rw [decide_eq_true (by assumption)]; rfl
  · rw [decide_eq_false (by assumption)]; rfl

set_option maxRecDepth 100000 in
set_option maxHeartbeats 8000000 in
theorem l4Explicit_any (A : Option Addr) (zs : List Int) (c : Nat) (b : Int) (w : World) (B : Nat) (h1 : Rd w B A (nums .i64 zs)) (hB : B ≤ w.heap.size) (hl : zs.length ≤ 600) (hz : zs.all chrB = true) (hc : zs.length ≤ c) (hb : 0 ≤ b ∧ b ≤ 1) :
    Calls Tryz.prog 13 #[.slice A zs.length c, .int .i64 b] w fun e w' => (∃ u1 u2, e = .returned (.tuple #[u1, u2]) ∧ Own w' w.heap.size w'.heap.size 2 .i64 u1 (levN (classesN zs) b) ∧ Own w' w.heap.size w'.heap.size 2 .i64 u2 (clsN (classesN zs) b) ∧
      (u1.ownBlock = none ∨ u1.ownBlock ≠ u2.ownBlock)) ∧ Below w.heap.size w w' := by
  obtain ⟨i0, hi, hz0, hz1, hz2⟩ := info_parts info_int64
  have HZ := Lib.hid hz
  have HB := Lib.hid hb
  obtain ⟨ks, hks⟩ : ∃ ks, Hid (ks = classesN zs) := ⟨_, Lib.hid rfl⟩
  rw [← hks.out]
  have hkl : ks.length = zs.length := by rw [hks.out]; exact classesN_len zs
  have h2 : Rd ((w.alloc (.cells #[.int .i64 b, .int .i64 (-1), .bool false] 56)).alloc (.cells #[.slice (some ⟨w.heap.size, 0, none⟩) 1 1, .int .i64 0, .int .i64 0, .int .i64 0, .slice none 0 0, .slice none 0 0] 59)) B A (nums .i64 zs) :=
    h1.below (((Below.refl B w).alloc hB _).alloc (by simp; omega) _) (Nat.le_refl _)
  have k2 := Blk.new (w.alloc (.cells #[.int .i64 b, .int .i64 (-1), .bool false] 56)) 59 #[.slice (some ⟨w.heap.size, 0, none⟩) 1 1, .int .i64 0, .int .i64 0, .int .i64 0, .slice none 0 0, .slice none 0 0]
  have r2 := (World.ownsRow_lit (base := 0) (size := 3) (e := 56) w #[.int .i64 b, .int .i64 (-1), .bool false] 1 (by omega) (by unfold maxLen; omega) rfl).alloc (.cells #[.slice (some ⟨w.heap.size, 0, none⟩) 1 1, .int .i64 0, .int .i64 0, .int .i64 0, .slice none 0 0, .slice none 0 0] 59)
  have b2 := (((Below.refl w.heap.size w).alloc (Nat.le_refl _) (.cells #[.int .i64 b, .int .i64 (-1), .bool false] 56)).alloc (by simp) (.cells #[.slice (some ⟨w.heap.size, 0, none⟩) 1 1, .int .i64 0, .int .i64 0, .int .i64 0, .slice none 0 0, .slice none 0 0] 59))
  have K2 := Lib.hid k2
  have R2 := Lib.hid r2
  have T2 := Lib.hid h2
  have B2 := Lib.hid b2
  clear k2 r2 h1 h2 b2 hz hb
  go_enter Tryz.func13, Tryz.ntmps13
  go_wp2_with fail
  refine (l3Matches_any A zs c _ (T2.out.more (by simp; omega)) hl HZ.out).mono ?_
  rintro e w2 ⟨⟨vm, rfl, om⟩, bm⟩
  rw [← hks.out] at om
  obtain ⟨Am, cm, rfl⟩ := om.form
  have mlen : (matchN ks).length = zs.length := by rw [matchN_len, hkl]
  have s2 : w.heap.size + 2 ≤ w2.heap.size := by have := bm.size; simpa using this
  obtain ⟨S, hS⟩ : ∃ S : Nat → Prop, Hid (S = fun k => k = w.heap.size ∨ k = w.heap.size + 1 ∨ w2.heap.size ≤ k) := ⟨_, Lib.hid rfl⟩
  have HOW := Lib.hid om
  rw [mlen]
  have SD : Hid (Side w2 S (w.heap.size + 2) w2.heap.size B 2 (.slice Am zs.length cm) ks A zs) := Lib.hid (by
    have o := HOW.out
    rw [mlen] at o
    refine ⟨?_, T2.out.below bm (by simp; omega), ?_, ?_, ?_, by omega⟩
    · have := o
      simpa using this
    · intro k hk; rw [hS.out]; exact .inr (.inr hk)
    · intro k hk; rw [hS.out]; intro hh; rcases hh with hh | hh | hh <;> omega
    · intro k hk hk2; rw [hS.out]; intro hh; rcases hh with hh | hh | hh <;> omega)
  have kb : Blk w2 (w.heap.size + 1) 59 #[.slice (some ⟨w.heap.size, 0, none⟩) 1 1, .int .i64 0, .int .i64 0, .int .i64 0, .slice none 0 0, .slice none 0 0] := by
    have := K2.out.below bm (by simp)
    simpa using this
  have rb := own_below R2.out bm
  have ST : Hid (AtS w2 S (w.heap.size + 1) ks b 0 (eat ks b 0) (.slice (some ⟨w.heap.size, 0, none⟩) 1 1) (.slice none 0 0) (.slice none 0 0)) := Lib.hid ⟨rfl, kb, by rw [hS.out]; exact .inr (.inl rfl),
    ⟨rb, by intro x hx; injection hx with hx; subst hx; rw [hS.out]; exact ⟨.inl rfl, by show w.heap.size ≠ w.heap.size + 1; omega⟩⟩, Row.nil _ _ _ _ _, Row.nil _ _ _ _ _, .inr (by simp [Value.ownBlock]), .inr (by simp [Value.ownBlock]), .inl rfl⟩
  have BB := Lib.hid (below_on B2.out bm (Nat.le_refl _))
  have SLO : Hid (∀ k, S k → w.heap.size ≤ k) := Lib.hid (by intro k; rw [hS.out]; intro hh; rcases hh with hh | hh | hh <;> omega)
  have FZ := Lib.hid (Fr.refl S w2)
  have HKL := Lib.hid hkl
  clear kb rb om bm K2 R2 T2 B2 HOW hkl mlen
  go_wp2
  go_loopw [8] (fun i wr => ∃ (k : Nat) (s : Tell) (L C : List Int) (u v2 v3 : Value), k ≤ zs.length ∧ i = .int .i64 k ∧ Hid (AtS wr S (w.heap.size + 1) ks b k (s, L, C) u v2 v3) ∧ Hid (Side wr S (w.heap.size + 2) w2.heap.size B 2 (.slice Am zs.length cm) ks A zs) ∧ Hid (Fr S w2 wr)) (fun i _ => zs.length + 1 - (intOf i).toNat)
  case atStart => exact ⟨0, _, _, _, _, _, _, by omega, rfl, ST, SD, FZ⟩
  case round =>
    clear ST SD FZ
    obtain ⟨k, s, L, C, u, v2, v3, hk, rfl, hat, hsd, hfr⟩ := hrel
    by_cases hlt : k < zs.length
    · obtain ⟨ba, off, rfl, hba, hca⟩ := hsd.out.rd.int (by omega)
      have hc0 := hca k hlt
      clear hca
      have hch := chr_nth zs HZ.out k hlt
      have hz1' : 0 ≤ nth zs k := by simp only [chrB, decide_eq_true_eq] at hch; omega
      have hcl := fun w => l2Class_any (nth zs k) w hz1'
      rw [← classesN_nth zs k hlt, ← hks.out] at hcl
      have HCL := Lib.hid hcl
      clear hcl hch hz1'
      obtain ⟨z, hzz⟩ : ∃ z, Hid (z = nth zs k) := ⟨_, Lib.hid rfl⟩
      rw [← hzz.out] at hc0 HCL
      have EX := Lib.hid hat.out.1
      have WF : Hid (WfT s k) := Lib.hid (by have := eat_wf ks b HB.out k; rw [← EX.out] at this; exact this)
      have LL : L.length = k := by have := (eat_len ks b k).1; rw [← EX.out] at this; exact this
      have CL : C.length = k := by have := (eat_len ks b k).2; rw [← EX.out] at this; exact this
      have hst : MSt wr S (w.heap.size + 1) s L C u v2 v3 := hat.out.2
      obtain ⟨A2, c2, rfl⟩ := hst.r2.form
      obtain ⟨A3, c3, rfl⟩ := hst.r3.form
      obtain ⟨qq, hq⟩ : ∃ q, Hid (q = nth ks k) := ⟨_, Lib.hid rfl⟩
      rw [← hq.out] at HCL
      have e4 := hst.blk.cell 4 (u := .slice A2 L.length c2) rfl
      have HA := Lib.hid (hst.alloc (.cells #[.int .i64 (-1)] 2))
      have OA := Lib.hid (hsd.out.op.on (w' := wr.alloc (.cells #[.int .i64 (-1)] 2)) (by simp))
      have FA := Lib.hid (hfr.out.trans (Fr.alloc wr (.cells #[.int .i64 (-1)] 2)))
      have SA := Lib.hid (hsd.out.fr (Fr.alloc wr (.cells #[.int .i64 (-1)] 2)))
      have hgl := hst.blk.lt
      have LLH := Lib.hid LL
      have hLl : L.length ≤ 600 := by omega
      have hCl : C.length ≤ 600 := by omega
      clear hat hst hsd hfr LL
      have CLH := Lib.hid CL
      clear CL
      have tok1 : True := trivial
      go_wp2_with (first
        | (go_at_call 22; refine (HCL.out _).mono ?_; rintro e w' ⟨rfl, rfl⟩)
        | (at_builtin; have _t := tok1; refine wpList_app rfl _ _ _ rfl 0 Tryz.underlying22 hi hz0 hz1 hz2 rfl (by omega) rfl HA.out.r2.1 rfl (Rd.lit wr #[.int .i64 (-1)] _) (m := 1) (news := [.int .i64 (-1)]) rfl (nums_one .i64 [(-1 : Int)]) (by omega) (by omega) (by omega) ?_; intro v' w4 o4 g4 a4; clear tok1; obtain ⟨A4, c4, rfl⟩ := own_form o4; have HP := Lib.hid (HA.out.appL OA.out (-1) o4 g4 a4); have FP := Lib.hid ((FA.out.trans (Fr.grown g4 (fun b hb => (HA.out.r2.2 b hb).1))).trans (Fr.set w4 ⟨w.heap.size + 1, 4, none⟩ (.slice A4 (L.length + 1) c4) HA.out.ing)); have SP := Lib.hid ((SA.out.fr (Fr.grown g4 (fun b hb => (HA.out.r2.2 b hb).1))).fr (Fr.set w4 ⟨w.heap.size + 1, 4, none⟩ (.slice A4 (L.length + 1) c4) HA.out.ing)); have KP : Blk w4 (w.heap.size + 1) _ _ := (g4.block _ HA.out.blk.lt (fun e => (HA.out.r2.2 _ e.symm).2 rfl)).trans HA.out.blk; have x4 := KP.cell 4 (u := .slice A2 L.length c2) rfl; have y4 := KP.frozen 4; have z5 := HP.out.blk.cell 5 (u := .slice A3 C.length c3) rfl; have hg4 := KP.lt; have HA2 := Lib.hid (HP.out.alloc (.cells #[.int .i64 qq] 2)); have OA2 := Lib.hid (SP.out.op.on (w' := (w4.setCell ⟨w.heap.size + 1, 4, none⟩ (.slice A4 (L.length + 1) c4)).alloc (.cells #[.int .i64 qq] 2)) (by simp)); have FA2 := Lib.hid (FP.out.trans (Fr.alloc _ (.cells #[.int .i64 qq] 2))); have SA2 := Lib.hid (SP.out.fr (Fr.alloc _ (.cells #[.int .i64 qq] 2))); have RL := Lib.hid (by have q := Rd.lit (w4.setCell ⟨w.heap.size + 1, 4, none⟩ (.slice A4 (L.length + 1) c4)) #[.int .i64 qq] 2; rw [World.size_setCell] at q; exact q); clear KP o4 g4 a4 HA OA FA SA HP FP SP)
        | (at_builtin; refine wpList_app rfl _ _ _ rfl 0 Tryz.underlying22 hi hz0 hz1 hz2 rfl (by omega) rfl HA2.out.r3.1 rfl RL.out (m := 1) (news := [.int .i64 qq]) rfl (nums_one .i64 [qq]) (by omega) (by omega) (by omega) ?_; intro v' w5 o5 g5 a5; obtain ⟨A5, c5, rfl⟩ := own_form o5; have HP := Lib.hid (HA2.out.appC OA2.out qq o5 g5 a5); have FP := Lib.hid ((FA2.out.trans (Fr.grown g5 (fun b hb => (HA2.out.r3.2 b hb).1))).trans (Fr.set w5 ⟨w.heap.size + 1, 5, none⟩ (.slice A5 (C.length + 1) c5) HA2.out.ing)); have SP := Lib.hid ((SA2.out.fr (Fr.grown g5 (fun b hb => (HA2.out.r3.2 b hb).1))).fr (Fr.set w5 ⟨w.heap.size + 1, 5, none⟩ (.slice A5 (C.length + 1) c5) HA2.out.ing)); have KP : Blk w5 (w.heap.size + 1) _ _ := (g5.block _ HA2.out.blk.lt (fun e => (HA2.out.r3.2 _ e.symm).2 rfl)).trans HA2.out.blk; have x5 := KP.cell 5 (u := .slice A3 C.length c3) rfl; have y5 := KP.frozen 5; clear KP o5 g5 a5 HA2 OA2 FA2 SA2 RL))
      · have hn : qq = 14 := by have h := ‹(qq == 14) = true›; simpa using h
        have hE : isEmb qq := by unfold isEmb; omega
        have E := Lib.hid (by have q := eat_emb (ks := ks) (b := b) (k := k) (by rw [← hq.out]; exact hE); rw [← EX.out, ← hq.out] at q; exact q)
        refine (sEmbed_any _ S _ s _ _ _ _ _ HP.out SP.out.op k WF.out (by omega) qq hE).mono ?_
        rintro e w7 ⟨⟨rfl, u7, h7⟩, f7⟩
        have H7 := Lib.hid h7
        have T7 := Lib.hid (SP.out.fr f7)
        have F7 := Lib.hid (FP.out.trans f7)
        clear h7 f7 HP FP SP hn hE
        go_wp2
        go_roundw
        case rel => exact ⟨k + 1, _, _, _, _, _, _, by omega, by go_num, Lib.hid ⟨E.out.symm, H7.out⟩, T7, F7⟩
        case measure => first | omega | (simp [intOf]; omega)
      · have hn : qq = 15 := by have h := ‹(qq == 15) = true›; simpa using h
        have hE : isEmb qq := by unfold isEmb; omega
        have E := Lib.hid (by have q := eat_emb (ks := ks) (b := b) (k := k) (by rw [← hq.out]; exact hE); rw [← EX.out, ← hq.out] at q; exact q)
        refine (sEmbed_any _ S _ s _ _ _ _ _ HP.out SP.out.op k WF.out (by omega) qq hE).mono ?_
        rintro e w7 ⟨⟨rfl, u7, h7⟩, f7⟩
        have H7 := Lib.hid h7
        have T7 := Lib.hid (SP.out.fr f7)
        have F7 := Lib.hid (FP.out.trans f7)
        clear h7 f7 HP FP SP hn hE
        go_wp2
        go_roundw
        case rel => exact ⟨k + 1, _, _, _, _, _, _, by omega, by go_num, Lib.hid ⟨E.out.symm, H7.out⟩, T7, F7⟩
        case measure => first | omega | (simp [intOf]; omega)
      · have hn : qq = 17 := by have h := ‹(qq == 17) = true›; simpa using h
        have hE : isEmb qq := by unfold isEmb; omega
        have E := Lib.hid (by have q := eat_emb (ks := ks) (b := b) (k := k) (by rw [← hq.out]; exact hE); rw [← EX.out, ← hq.out] at q; exact q)
        refine (sEmbed_any _ S _ s _ _ _ _ _ HP.out SP.out.op k WF.out (by omega) qq hE).mono ?_
        rintro e w7 ⟨⟨rfl, u7, h7⟩, f7⟩
        have H7 := Lib.hid h7
        have T7 := Lib.hid (SP.out.fr f7)
        have F7 := Lib.hid (FP.out.trans f7)
        clear h7 f7 HP FP SP hn hE
        go_wp2
        go_roundw
        case rel => exact ⟨k + 1, _, _, _, _, _, _, by omega, by go_num, Lib.hid ⟨E.out.symm, H7.out⟩, T7, F7⟩
        case measure => first | omega | (simp [intOf]; omega)
      · have hn : qq = 18 := by have h := ‹(qq == 18) = true›; simpa using h
        have hE : isEmb qq := by unfold isEmb; omega
        have E := Lib.hid (by have q := eat_emb (ks := ks) (b := b) (k := k) (by rw [← hq.out]; exact hE); rw [← EX.out, ← hq.out] at q; exact q)
        refine (sEmbed_any _ S _ s _ _ _ _ _ HP.out SP.out.op k WF.out (by omega) qq hE).mono ?_
        rintro e w7 ⟨⟨rfl, u7, h7⟩, f7⟩
        have H7 := Lib.hid h7
        have T7 := Lib.hid (SP.out.fr f7)
        have F7 := Lib.hid (FP.out.trans f7)
        clear h7 f7 HP FP SP hn hE
        go_wp2
        go_roundw
        case rel => exact ⟨k + 1, _, _, _, _, _, _, by omega, by go_num, Lib.hid ⟨E.out.symm, H7.out⟩, T7, F7⟩
        case measure => first | omega | (simp [intOf]; omega)
      · have hn : qq = 19 := by have h := ‹(qq == 19) = true›; simpa using h
        have hO : isOp qq := by unfold isOp; omega
        have E := Lib.hid (by have q := eat_iso (ks := ks) (b := b) (k := k) (by rw [← hq.out]; exact hO); rw [leftOf_q (by rw [← hq.out]; omega), ← EX.out, ← hq.out] at q; exact q)
        refine (sTake_any _ S _ s _ _ _ _ _ HP.out WF.out.pos (by have := WF.out.len; omega) k (by rw [List.length_append, LLH.out]; simp) (by rw [List.length_append, CLH.out]; simp) (by rw [List.length_append]; simp; omega) (by rw [List.length_append]; simp; omega)).mono ?_
        rintro e w6 ⟨⟨rfl, h6⟩, f6⟩
        rw [set_last L k _ _ LLH.out, turnC_last C k _ _ CLH.out] at h6
        have H6 := Lib.hid h6
        have T6 := Lib.hid (SP.out.fr f6)
        have F6 := Lib.hid (FP.out.trans f6)
        clear h6 f6
        clear HP FP SP hO
        clear hn
        go_wp2_with fail
        refine (sIsolate_any _ S _ s _ _ _ _ _ H6.out T6.out.op k WF.out (by omega) qq).mono ?_
        rintro e w7 ⟨⟨rfl, u7, h7⟩, f7⟩
        have H7 := Lib.hid h7
        have T7 := Lib.hid (T6.out.fr f7)
        have F7 := Lib.hid (F6.out.trans f7)
        clear h7 f7 H6 T6 F6
        go_wp2
        go_roundw
        case rel => exact ⟨k + 1, _, _, _, _, _, _, by omega, by go_num, Lib.hid ⟨E.out.symm, H7.out⟩, T7, F7⟩
        case measure => first | omega | (simp [intOf]; omega)
      · have hn : qq = 20 := by have h := ‹(qq == 20) = true›; simpa using h
        have hO : isOp qq := by unfold isOp; omega
        have E := Lib.hid (by have q := eat_iso (ks := ks) (b := b) (k := k) (by rw [← hq.out]; exact hO); rw [leftOf_q (by rw [← hq.out]; omega), ← EX.out, ← hq.out] at q; exact q)
        refine (sTake_any _ S _ s _ _ _ _ _ HP.out WF.out.pos (by have := WF.out.len; omega) k (by rw [List.length_append, LLH.out]; simp) (by rw [List.length_append, CLH.out]; simp) (by rw [List.length_append]; simp; omega) (by rw [List.length_append]; simp; omega)).mono ?_
        rintro e w6 ⟨⟨rfl, h6⟩, f6⟩
        rw [set_last L k _ _ LLH.out, turnC_last C k _ _ CLH.out] at h6
        have H6 := Lib.hid h6
        have T6 := Lib.hid (SP.out.fr f6)
        have F6 := Lib.hid (FP.out.trans f6)
        clear h6 f6
        clear HP FP SP hO
        clear hn
        go_wp2_with fail
        refine (sIsolate_any _ S _ s _ _ _ _ _ H6.out T6.out.op k WF.out (by omega) qq).mono ?_
        rintro e w7 ⟨⟨rfl, u7, h7⟩, f7⟩
        have H7 := Lib.hid h7
        have T7 := Lib.hid (T6.out.fr f7)
        have F7 := Lib.hid (F6.out.trans f7)
        clear h7 f7 H6 T6 F6
        go_wp2
        go_roundw
        case rel => exact ⟨k + 1, _, _, _, _, _, _, by omega, by go_num, Lib.hid ⟨E.out.symm, H7.out⟩, T7, F7⟩
        case measure => first | omega | (simp [intOf]; omega)
      · have hn : qq = 21 := by have h := ‹(qq == 21) = true›; simpa using h
        have hO : isOp qq := by unfold isOp; omega
        have hO2 := Lib.hid (show isOp (nth (classesN zs) k) by rw [← hks.out, ← hq.out]; exact hO)
        have E := Lib.hid (by have q := eat_iso (ks := ks) (b := b) (k := k) (by rw [← hq.out]; exact hO); rw [leftOf_21 (by rw [← hq.out]; exact hn), ← EX.out, ← hq.out] at q; exact q)
        refine (sTake_any _ S _ s _ _ _ _ _ HP.out WF.out.pos (by have := WF.out.len; omega) k (by rw [List.length_append, LLH.out]; simp) (by rw [List.length_append, CLH.out]; simp) (by rw [List.length_append]; simp; omega) (by rw [List.length_append]; simp; omega)).mono ?_
        rintro e w6 ⟨⟨rfl, h6⟩, f6⟩
        rw [set_last L k _ _ LLH.out, turnC_last C k _ _ CLH.out] at h6
        have H6 := Lib.hid h6
        have T6 := Lib.hid (SP.out.fr f6)
        have F6 := Lib.hid (FP.out.trans f6)
        clear h6 f6
        clear HP FP SP hO hn
        go_wp2_with fail
        have RM := Lib.hid (by
          have q := T6.out.own.1
          rw [hks.out, show (matchN (classesN zs)).length = zs.length by rw [matchN_len, classesN_len]] at q
          exact Rd.of q)
        refine (sFirst_any _ Am zs c cm _ (T6.out.rd.more T6.out.bw) RM.out hl HZ.out hc k hlt hO2.out).mono ?_
        rintro e w8 ⟨rfl, b8⟩
        rw [← hks.out]
        have H8 := Lib.hid (H6.out.below b8)
        have T8 := Lib.hid (T6.out.fr (Fr.of_below b8))
        have F8 := Lib.hid (F6.out.trans (Fr.of_below b8))
        clear b8 H6 T6 F6
        obtain ⟨y, hy⟩ : ∃ y : Int, Hid (y = if ownWay ks k = 1 then 20 else 19) := ⟨_, Lib.hid rfl⟩
        rw [← hy.out] at E ⊢
        go_wp2_with fail
        refine (sIsolate_any _ S _ s _ _ _ _ _ H8.out T8.out.op k WF.out (by omega) y).mono ?_
        rintro e w7 ⟨⟨rfl, u7, h7⟩, f7⟩
        have H7 := Lib.hid h7
        have T7 := Lib.hid (T8.out.fr f7)
        have F7 := Lib.hid (F8.out.trans f7)
        clear h7 f7 H8 T8 F8
        go_wp2
        go_roundw
        case rel => exact ⟨k + 1, _, _, _, _, _, _, by omega, by go_num, Lib.hid ⟨E.out.symm, H7.out⟩, T7, F7⟩
        case measure => first | omega | (simp [intOf]; omega)
      · have hn : qq = 22 := by have h := ‹(qq == 22) = true›; simpa using h
        have E := Lib.hid (by have q := eat_end (ks := ks) (b := b) (k := k) (by rw [← hq.out]; exact hn); rw [← EX.out, ← hq.out] at q; exact q)
        have WE := Lib.hid WF.out.ends
        refine (sEnds_any _ S _ s _ _ _ _ _ HP.out k WF.out (by omega)).mono ?_
        rintro e w8 ⟨⟨rfl, u8, h8⟩, f8⟩
        have H8 := Lib.hid h8
        have T8 := Lib.hid (SP.out.fr f8)
        have F8 := Lib.hid (FP.out.trans f8)
        clear h8 f8 HP FP SP hn
        go_wp2_with fail
        refine (sTake_any _ S _ (endS s) _ _ _ _ _ H8.out WE.out.pos (by have := WE.out.len; omega) k (by rw [List.length_append, LLH.out]; simp) (by rw [List.length_append, CLH.out]; simp) (by rw [List.length_append]; simp; omega) (by rw [List.length_append]; simp; omega)).mono ?_
        rintro e w7 ⟨⟨rfl, h7⟩, f7⟩
        rw [set_last L k _ _ LLH.out, turnC_last C k _ _ CLH.out] at h7
        have H7 := Lib.hid h7
        have T7 := Lib.hid (T8.out.fr f7)
        have F7 := Lib.hid (F8.out.trans f7)
        clear h7 f7
        clear H8 T8 F8
        go_wp2
        go_roundw
        case rel => exact ⟨k + 1, _, _, _, _, _, _, by omega, by go_num, Lib.hid ⟨E.out.symm, H7.out⟩, T7, F7⟩
        case measure => first | omega | (simp [intOf]; omega)
      · have hn : qq = 16 := by have h := ‹(qq == 16) = true›; simpa using h
        have E := Lib.hid (by have q := eat_pop (ks := ks) (b := b) (k := k) (by rw [← hq.out]; exact hn); rw [← EX.out, ← hq.out] at q; exact q)
        refine (sPops_any _ S _ s _ _ _ _ _ HP.out k WF.out (by omega)).mono ?_
        rintro e w7 ⟨⟨rfl, u7, h7⟩, f7⟩
        have H7 := Lib.hid h7
        have T7 := Lib.hid (SP.out.fr f7)
        have F7 := Lib.hid (FP.out.trans f7)
        clear h7 f7 HP FP SP hn
        go_wp2
        go_roundw
        case rel => exact ⟨k + 1, _, _, _, _, _, _, by omega, by go_num, Lib.hid ⟨E.out.symm, H7.out⟩, T7, F7⟩
        case measure => first | omega | (simp [intOf]; omega)
      · have hn : qq = 9 := by have h := ‹(qq == 9) = true›; simpa using h
        have E := Lib.hid (by have q := eat_bn (ks := ks) (b := b) (k := k) (by rw [← hq.out]; exact hn); rw [← EX.out, ← hq.out] at q; exact q)
        have H7 := HP
        have T7 := SP
        have F7 := FP
        clear hn
        go_roundw
        case rel => exact ⟨k + 1, _, _, _, _, _, _, by omega, by go_num, Lib.hid ⟨E.out.symm, H7.out⟩, T7, F7⟩
        case measure => first | omega | (simp [intOf]; omega)
      · have m1 : ¬ isEmb qq := by unfold isEmb; simp only [beq_eq_false_iff_ne, ne_eq] at *; omega
        have m2 : ¬ isOp qq := by unfold isOp; simp only [beq_eq_false_iff_ne, ne_eq] at *; omega
        have m3 : ¬ qq = 22 := by simp only [beq_eq_false_iff_ne, ne_eq] at *; omega
        have m4 : ¬ qq = 16 := by simp only [beq_eq_false_iff_ne, ne_eq] at *; omega
        have m5 : ¬ qq = 9 := by simp only [beq_eq_false_iff_ne, ne_eq] at *; omega
        have E := Lib.hid (by have q := eat_any (ks := ks) (b := b) (k := k) (by rw [← hq.out]; exact m1) (by rw [← hq.out]; exact m2) (by rw [← hq.out]; exact m3) (by rw [← hq.out]; exact m4) (by rw [← hq.out]; exact m5); rw [← EX.out, ← hq.out] at q; exact q)
        refine (sTake_any _ S _ s _ _ _ _ _ HP.out WF.out.pos (by have := WF.out.len; omega) k (by rw [List.length_append, LLH.out]; simp) (by rw [List.length_append, CLH.out]; simp) (by rw [List.length_append]; simp; omega) (by rw [List.length_append]; simp; omega)).mono ?_
        rintro e w7 ⟨⟨rfl, h7⟩, f7⟩
        rw [set_last L k _ _ LLH.out, turnC_last C k _ _ CLH.out] at h7
        have H7 := Lib.hid h7
        have T7 := Lib.hid (SP.out.fr f7)
        have F7 := Lib.hid (FP.out.trans f7)
        clear h7 f7
        clear HP FP SP m1 m2 m3 m4 m5
        go_wp2
        go_roundw
        case rel => exact ⟨k + 1, _, _, _, _, _, _, by omega, by go_num, Lib.hid ⟨E.out.symm, H7.out⟩, T7, F7⟩
        case measure => first | omega | (simp [intOf]; omega)
    · have hkn : k = ks.length := by rw [HKL.out]; omega
      have hst : MSt wr S (w.heap.size + 1) s L C u v2 v3 := hat.out.2
      have EX := Lib.hid hat.out.1
      have EL := Lib.hid (show L = levN ks b by unfold levN; rw [← hkn, ← EX.out])
      have EC := Lib.hid (show C = clsN ks b by unfold clsN; rw [← hkn, ← EX.out])
      obtain ⟨A2, c2, rfl⟩ := hst.r2.form
      obtain ⟨A3, c3, rfl⟩ := hst.r3.form
      have e4 := hst.blk.cell 4 (u := .slice A2 L.length c2) rfl
      have e5 := hst.blk.cell 5 (u := .slice A3 C.length c3) rfl
      have up2 := Lib.hid (Row.up hst.r2 (fun b hb => SLO.out b (hst.r2.2 b hb).1))
      have up3 := Lib.hid (Row.up hst.r3 (fun b hb => SLO.out b (hst.r3.2 b hb).1))
      have D23 := Lib.hid hst.d23
      have BZ := Lib.hid (BB.out.trans (hfr.out.below BB.out.size (fun x hx hs => by have := SLO.out x hs; omega)))
      clear hat hst hsd hfr hkn
      go_wp2
      go_region
      all_goals
        go_wp2
        refine bodyPost_ret (v := .tuple #[.slice A2 L.length c2, .slice A3 C.length c3]) (by simp [results, Tryz.results13, go_sem]) rfl ?_
        rw [← EL.out, ← EC.out]
        exact ⟨⟨_, _, rfl, up2.out.keep (fun _ _ _ _ => rfl), up3.out.keep (fun _ _ _ _ => rfl), D23.out⟩, ⟨BZ.out.os, BZ.out.tape, BZ.out.output, BZ.out.size, BZ.out.block⟩⟩
end Go.Proofs.YtcfnhjpmihngdaaGreat
