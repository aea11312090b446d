/- Chapter 4: the model's state: what closes isolates and embeddings. -/
import Derived.Test.YtcfnhjpmihngdaaGreatY24
namespace Go.Proofs.YtcfnhjpmihngdaaGreat
open Go.RowKit Go.Maps

/-- how long the slice in a block's first cell is -/
def lenAt (w : World) (g : Nat) : Nat := match w.cell? ⟨g, 0, none⟩ with | some (.slice _ n _) => n | _ => 0
theorem lenAt_of {w : World} {g n c : Nat} {A : Option Addr} (h : w.cell? ⟨g, 0, none⟩ = some (.slice A n c)) : lenAt w g = n := by unfold lenAt; rw [h]
theorem isos_pos {l : List Tier} (h : 0 < isos l) : 0 < l.length := by
  cases l with
  | nil => simp [isos] at h
  | cons e l => simp
theorem isos_drop {l : List Tier} (hp : 0 < l.length) (h : (topT l).iso = false) : isos l.dropLast = isos l := by
  have s := split_last l hp
  have : isos (l.dropLast ++ [topT l]) = isos l.dropLast := by rw [isos_app, isos_one, h]; simp
  rw [← s] at this
  exact this.symm
theorem popS_a {s : Tell} (h : 0 < s.li) : popS s = s := by unfold popS; rw [if_pos h]
theorem popS_b {s : Tell} (h : ¬ 0 < s.li) (h2 : 0 < s.le) : popS s = ⟨s.stk, s.li, s.le - 1, s.is⟩ := by unfold popS; rw [if_neg h, if_pos h2]
theorem popS_c {s : Tell} (h : ¬ 0 < s.li) (h2 : ¬ 0 < s.le) (h3 : (topT s.stk).iso = false ∧ 1 < s.stk.length) : popS s = ⟨s.stk.dropLast, s.li, s.le, s.is⟩ := by unfold popS; rw [if_neg h, if_neg h2, if_pos h3]
theorem popS_d {s : Tell} (h : ¬ 0 < s.li) (h2 : ¬ 0 < s.le) (h3 : ¬ ((topT s.stk).iso = false ∧ 1 < s.stk.length)) : popS s = s := by unfold popS; rw [if_neg h, if_neg h2, if_neg h3]
theorem endS_a {s : Tell} (h : 0 < s.li) : endS s = ⟨s.stk, s.li - 1, s.le, s.is⟩ := by unfold endS; rw [if_pos h]
theorem endS_b {s : Tell} (h : ¬ 0 < s.li) (h2 : 0 < s.is) : endS s = ⟨popIso s.stk, s.li, 0, s.is - 1⟩ := by unfold endS; rw [if_neg h, if_pos h2]
theorem endS_c {s : Tell} (h : ¬ 0 < s.li) (h2 : ¬ 0 < s.is) : endS s = s := by unfold endS; rw [if_neg h, if_neg h2]

attribute [local go_sem] sEntry_lev sEntry_iso
set_option maxRecDepth 100000 in
set_option maxHeartbeats 1000000 in
theorem sPops_any (w : World) (S : Nat → Prop) (g : Nat) (s : Tell) (L C : List Int) (v1 v2 v3 : Value) (h : MSt w S g s L C v1 v2 v3) (i : Nat) (hW : WfT s i) (hi : i ≤ 600) :
    Calls Tryz.prog 29 #[.pointer (some ⟨g, 0, none⟩)] w fun e w' => (e = .returned (.tuple #[]) ∧ ∃ u, MSt w' S g (popS s) L C u v2 v3) ∧ Fr S w w' := by
  have hp := hW.pos
  have hl : s.stk.length ≤ 700 := by have := hW.len; omega
  have hli : s.li ≤ 600 := by have := hW.li; omega
  have hle : s.le ≤ 600 := by have := hW.le; omega
  have H := Lib.hid h
  have e1 := h.blk.cell 1 (u := .int .i64 s.li) rfl
  have e2 := h.blk.cell 2 (u := .int .i64 s.le) rfl
  have f2 := h.blk.frozen 2
  have hgl := h.blk.lt
  clear h hW
  by_cases h0 : 0 < s.li
  · have E := Lib.hid (popS_a h0)
    go_enter Tryz.func29, Tryz.ntmps29
    go_wp2
    go_end0
    rw [E.out]
    exact ⟨⟨rfl, _, H.out⟩, Fr.refl _ _⟩
  · by_cases h2 : 0 < s.le
    · have E := Lib.hid (popS_b h0 h2)
      have H2 := Lib.hid (H.out.num 2 (s.le - 1) ⟨s.stk, s.li, s.le - 1, s.is⟩ rfl rfl)
      have F2 := Lib.hid (Fr.set w ⟨g, 2, none⟩ (.int .i64 ((s.le - 1 : Nat) : Int)) H.out.ing)
      have ec : ((s.le - 1 : Nat) : Int) = (s.le : Int) - 1 := by omega
      rw [ec] at H2 F2
      clear ec
      go_enter Tryz.func29, Tryz.ntmps29
      go_wp2
      go_end0
      rw [E.out]
      exact ⟨⟨rfl, _, H2.out⟩, F2.out⟩
    · have h3 : s.li = 0 := by omega
      have h4 : s.le = 0 := by omega
      have EC := Lib.hid (popS_c (s := s) h0 h2)
      have ED := Lib.hid (popS_d (s := s) h0 h2)
      clear h0 h2
      go_enter Tryz.func29, Tryz.ntmps29
      go_wp2_with fail
      refine (sLast_any w S g s L C _ _ _ H.out hp hl).mono ?_
      rintro e w1 ⟨rfl, bl⟩
      have h1 := H.out.below bl
      have F1 := Lib.hid (Fr.of_below (S := S) bl)
      obtain ⟨b, c, rfl, -, hbg⟩ := h1.r1.addr hp
      have e0 := h1.blk.cell 0 (u := .slice (some ⟨b, 0, none⟩) s.stk.length c) rfl
      have f0 := h1.blk.frozen 0
      have hcap := h1.r1.cap
      have hgl1 := h1.blk.lt
      have H1 := Lib.hid h1
      clear h1 bl e1 e2 f2
      cases hiso : (topT s.stk).iso with
      | true =>
        have E := Lib.hid (ED.out (by rw [hiso]; simp))
        clear hiso
        go_wp2
        go_end0
        rw [E.out]
        exact ⟨⟨rfl, _, H1.out⟩, F1.out⟩
      | false =>
        by_cases h1l : 1 < s.stk.length
        · have E := Lib.hid (EC.out ⟨hiso, h1l⟩)
          obtain ⟨m, hm⟩ : ∃ m, s.stk.length = m + 1 := ⟨s.stk.length - 1, by omega⟩
          have HM := Lib.hid hm
          rw [hm] at e0 hcap hl h1l hp H1
          have H2 := Lib.hid ((H1.out.pop HM.out rfl).below (drew_below _))
          have F2 := Lib.hid ((F1.out.trans (Fr.set w1 ⟨g, 0, none⟩ (.slice (some ⟨b, 0, none⟩) m c) H1.out.ing)).trans (Fr.of_below (drew_below _)))
          clear hiso hm
          go_wp2
          go_region
          all_goals
            go_wp2
            go_end0
            rw [E.out]
            exact ⟨⟨rfl, _, H2.out⟩, F2.out⟩
        · have E := Lib.hid (ED.out (fun k => h1l k.2))
          have h1e : s.stk.length = 1 := by omega
          rw [h1e] at e0 H1
          clear hiso h1l h1e
          go_wp2
          go_end0
          rw [E.out]
          exact ⟨⟨rfl, _, H1.out⟩, F1.out⟩

set_option maxRecDepth 100000 in
set_option maxHeartbeats 1000000 in
theorem sEnds_any (w : World) (S : Nat → Prop) (g : Nat) (s : Tell) (L C : List Int) (v1 v2 v3 : Value) (h : MSt w S g s L C v1 v2 v3) (i : Nat) (hW : WfT s i) (hi : i ≤ 600) :
    Calls Tryz.prog 28 #[.pointer (some ⟨g, 0, none⟩)] w fun e w' => (e = .returned (.tuple #[]) ∧ ∃ u, MSt w' S g (endS s) L C u v2 v3) ∧ Fr S w w' := by
  have hp := hW.pos
  have hl : s.stk.length ≤ 700 := by have := hW.len; omega
  have hli : s.li ≤ 600 := by have := hW.li; omega
  have his : s.is ≤ 600 := by have := hW.is; omega
  have hmany := hW.many
  have H := Lib.hid h
  have e1 := h.blk.cell 1 (u := .int .i64 s.li) rfl
  have e3 := h.blk.cell 3 (u := .int .i64 s.is) rfl
  have f1 := h.blk.frozen 1
  have f2 := h.blk.frozen 2
  have x2 := h.blk.cell 2 (u := .int .i64 s.le) rfl
  have hgl := h.blk.lt
  clear h hW
  by_cases h0 : 0 < s.li
  · have E := Lib.hid (endS_a h0)
    have H2 := Lib.hid (H.out.num 1 (s.li - 1) ⟨s.stk, s.li - 1, s.le, s.is⟩ rfl rfl)
    have F2 := Lib.hid (Fr.set w ⟨g, 1, none⟩ (.int .i64 ((s.li - 1 : Nat) : Int)) H.out.ing)
    have ec : ((s.li - 1 : Nat) : Int) = (s.li : Int) - 1 := by omega
    rw [ec] at H2 F2
    clear ec hmany
    go_enter Tryz.func28, Tryz.ntmps28
    go_wp2
    go_end0
    rw [E.out]
    exact ⟨⟨rfl, _, H2.out⟩, F2.out⟩
  · by_cases h2 : 0 < s.is
    · have E := Lib.hid (endS_b h0 h2)
      have h3 : s.li = 0 := by omega
      have H2 := Lib.hid (H.out.num 2 0 ⟨s.stk, s.li, 0, s.is⟩ rfl rfl)
      have F2 := Lib.hid (Fr.set w ⟨g, 2, none⟩ (.int .i64 ((0 : Nat) : Int)) H.out.ing)
      have MP := Lib.hid (show 0 < isos s.stk by omega)
      clear h0 hmany
      go_enter Tryz.func28, Tryz.ntmps28
      go_wp2
      go_loopw [24] (fun _ wr => ∃ (l : List Tier) (u : Value), Hid (popIso l = popIso s.stk) ∧ Hid (0 < isos l) ∧ l.length ≤ 700 ∧ Hid (MSt wr S g ⟨l, s.li, 0, s.is⟩ L C u v2 v3) ∧ Hid (Fr S w wr)) (fun _ wr => lenAt wr g)
      case atStart => exact ⟨s.stk, v1, Lib.hid rfl, MP, hl, H2, F2⟩
      case round =>
        clear H2 F2 e1 e3 f1 f2 x2 hgl H MP
        obtain ⟨l, u, hpi, hpo, hll, hst, hfr⟩ := hrel
        have lp := isos_pos hpo.out
        obtain ⟨m, hm⟩ : ∃ m, Hid (l.length = m + 1) := ⟨l.length - 1, Lib.hid (by show l.length = _; omega)⟩
        have ml : m ≤ 699 := by have := hm.out; omega
        obtain ⟨b, c, rfl, -, hbg⟩ := hst.out.r1.addr lp
        have LW := Lib.hid (lenAt_of (hst.out.blk.cell 0 rfl))
        go_wp2_with fail
        refine (sLast_any wr S g ⟨l, s.li, 0, s.is⟩ L C _ _ _ hst.out lp hll).mono ?_
        rintro e w1 ⟨rfl, bl⟩
        have h1 := hst.out.below bl
        have F1 := Lib.hid (hfr.out.trans (Fr.of_below (S := S) bl))
        have H1 : Hid (MSt w1 S g ⟨l, s.li, 0, s.is⟩ L C (.slice (some ⟨b, 0, none⟩) (m + 1) c) v2 v3) := Lib.hid (by rw [← hm.out]; exact h1)
        have e0 := H1.out.blk.cell 0 (u := .slice (some ⟨b, 0, none⟩) (m + 1) c) rfl
        have f0 := h1.blk.frozen 0
        have hcap : m + 1 ≤ c ∧ c ≤ maxLen := by rw [← hm.out]; exact h1.r1.cap
        have hgl1 := h1.blk.lt
        clear h1 bl hst hfr
        have P := Lib.hid (popIso_last l lp)
        have H2 := Lib.hid ((H1.out.pop hm.out rfl).below (drew_below _))
        have F2 := Lib.hid ((F1.out.trans (Fr.set w1 ⟨g, 0, none⟩ (.slice (some ⟨b, 0, none⟩) m c) H1.out.ing)).trans (Fr.of_below (drew_below _)))
        have LM : Hid (l.dropLast.length = m) := Lib.hid (by rw [List.length_dropLast, hm.out]; rfl)
        cases hiso : (topT l).iso with
        | true =>
          rw [hiso, if_pos rfl] at P
          have PE := Lib.hid (show l.dropLast = popIso s.stk by rw [← hpi.out, P.out])
          have H3 := Lib.hid (H2.out.num 3 (s.is - 1) ⟨l.dropLast, s.li, 0, s.is - 1⟩ rfl rfl)
          have F3 := Lib.hid (F2.out.trans (Fr.set _ ⟨g, 3, none⟩ (.int .i64 ((s.is - 1 : Nat) : Int)) H1.out.ing))
          have ec : ((s.is - 1 : Nat) : Int) = (s.is : Int) - 1 := by omega
          rw [ec] at H3 F3
          have e3 := H2.out.blk.cell 3 (u := .int .i64 s.is) rfl
          have f3 := H2.out.blk.frozen 3
          clear hiso ec
          go_wp2
          go_region
          all_goals
            go_wp2
            go_end0
            rw [E.out, ← PE.out]
            exact ⟨⟨rfl, _, H3.out⟩, F3.out⟩
        | false =>
          have hpo2 := Lib.hid (show 0 < isos l.dropLast by rw [isos_drop lp hiso]; exact hpo.out)
          rw [hiso] at P
          have PE := Lib.hid (show popIso l.dropLast = popIso s.stk by rw [← hpi.out, P.out]; rfl)
          have lw2 := Lib.hid (lenAt_of (H2.out.blk.cell 0 rfl))
          clear hiso
          go_wp2
          go_region
          all_goals
            go_simp
            go_roundw
            case rel =>
              (repeat apply Exists.intro)
              exact ⟨⟨l.dropLast, _, PE, hpo2, by rw [LM.out]; omega, H2, F2⟩, rfl⟩
            case measure => rw [lw2.out, LW.out]; have := hm.out; show m < l.length; omega
    · have E := Lib.hid (endS_c h0 h2)
      have h3 : s.li = 0 := by omega
      have h4 : s.is = 0 := by omega
      clear h0 h2 hmany
      go_enter Tryz.func28, Tryz.ntmps28
      go_wp2
      go_end0
      rw [E.out]
      exact ⟨⟨rfl, _, H.out⟩, Fr.refl _ _⟩
end Go.Proofs.YtcfnhjpmihngdaaGreat
