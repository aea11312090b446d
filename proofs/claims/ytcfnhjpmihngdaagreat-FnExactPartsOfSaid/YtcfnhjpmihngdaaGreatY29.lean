/- Chapter 4: the program's teller: isolates, and which method meets a class. -/
import Derived.Test.YtcfnhjpmihngdaaGreatY28
namespace Go.Proofs.YtcfnhjpmihngdaaGreat
open Go.RowKit Go.Maps
attribute [local go_sem] iEntry_lev iEntry_iso

section
variable (w : World) (S : Nat → Prop) (g gs : Nat) (s : Tell) (L C : List Int) (vk vm v1 v2 v3 : Value) (h : TSt w S g gs s L C vk vm v1 v2 v3)
include h
set_option maxRecDepth 100000 in
set_option maxHeartbeats 2000000 in
theorem iOpenIso_any (hO : Open S w) (i : Nat) (hW : WfT s i) (hi : i ≤ 600) (ks : List Int) (Ak Am : Option Addr) (ck cm B : Nat) (hvk : vk = .slice Ak ks.length ck) (hrk : Rd w B Ak (nums .i64 ks)) (hvm : vm = .slice Am ks.length cm) (hrm : Rd w B Am (nums .i64 (matchN ks))) (hB : B ≤ w.heap.size) (hS : ∀ x, x < B → ¬ S x)
    (hc : ks.length ≤ ck) (k : Nat) (hk : k < ks.length) (hkl : ks.length ≤ 600) (ho : isOp (nth ks k)) (hkL : k < L.length) (hkC : k < C.length) (hL : L.length ≤ 700) (hC : C.length ≤ 700) :
    Calls Tryz.prog 77 #[.pointer (some ⟨g, 0, none⟩), .int .i64 k] w fun e w' => (e = .returned (.tuple #[]) ∧ ∃ u, TSt w' S g gs (isoS (leftKs ks k) s) (L.set k (topT s.stk).lev) (turnC C k (topT s.stk)) vk vm u v2 v3) ∧ Fr S w w' := by
  have hp := hW.pos
  have hl : s.stk.length ≤ 700 := by have := hW.len; omega
  have tp := hW.top
  have hli : s.li ≤ 600 := by have := hW.li; omega
  have hle : s.le ≤ 600 := by have := hW.le; omega
  have his : s.is ≤ 600 := by have := hW.is; omega
  have nl := nextN_low (leftKs ks k) (topT s.stk).lev tp.1
  obtain ⟨n, hn⟩ : ∃ n, Hid (n = nextL (leftKs ks k) s.stk) := ⟨_, Lib.hid rfl⟩
  rw [← nextL_eq, ← hn.out] at nl
  have n0 : 0 ≤ n := by omega
  have n1 : n ≤ 127 := by omega
  have tl := tp.1
  have th := tp.2.1
  have EN := Lib.hid (show nextL (leftKs ks k) s.stk = n from hn.out.symm)
  have RK := Lib.hid hrk
  have RM := Lib.hid hrm
  have HO := Lib.hid hO
  have HS := Lib.hid hS
  have HP := Lib.hid ho
  clear nl tp hW hrk hrm hO hS ho
  go_enter Tryz.func77, Tryz.ntmps77
  go_wp2_with fail
  refine (iTake_any w S g gs s L C _ _ _ _ _ h hp hl k hkL hkC hL hC).mono ?_
  rintro e w1 ⟨⟨rfl, h1⟩, f1⟩
  have H1 := Lib.hid h1
  have F1 := Lib.hid f1
  have R1 := Lib.hid (RK.out.fr f1 hB HS.out)
  have M1 := Lib.hid (RM.out.fr f1 hB HS.out)
  have O1 := Lib.hid (HO.out.on f1.size)
  have s1 := f1.size
  clear h1 f1 h
  go_wp2_with fail
  refine (iLeft_any w1 S g gs s _ _ vk vm _ _ _ H1.out ks Ak Am ck cm B hvk R1.out hvm M1.out (by omega) hc k hk hkl HP.out).mono ?_
  rintro e w2 ⟨rfl, b2⟩
  have H2 := Lib.hid (H1.out.below b2)
  have F2 := Lib.hid (F1.out.trans (Fr.of_below (S := S) b2))
  have O2 := Lib.hid (O1.out.on b2.size)
  clear b2 H1 F1 O1 R1 M1
  go_wp2_with fail
  refine (iNext_any w2 S g gs s _ _ vk vm _ _ _ H2.out hp hl tl (by omega) (leftKs ks k)).mono ?_
  rintro e w3 ⟨rfl, b3⟩
  rw [EN.out]
  have h3 := H2.out.below b3
  have NG := h3.blk.lt
  have H3 := Lib.hid (h3.alloc (.cells #[.int .i64 n, .int .i64 (-1), .bool true] 104))
  have F3 := Lib.hid ((F2.out.trans (Fr.of_below (S := S) b3)).trans (Fr.alloc w3 (.cells #[.int .i64 n, .int .i64 (-1), .bool true] 104)))
  have O3 := Lib.hid ((O2.out.on b3.size).on (w' := w3.alloc (.cells #[.int .i64 n, .int .i64 (-1), .bool true] 104)) (by simp))
  have k3 := Blk.new w3 104 #[.int .i64 n, .int .i64 (-1), .bool true]
  have K3 := Lib.hid k3
  have p0 := k3.cell 0 (u := .int .i64 n) rfl
  have p1 := k3.cell 1 (u := .int .i64 (-1)) rfl
  have p2 := k3.cell 2 (u := .bool true) rfl
  clear b3 H2 F2 O2 h3 k3
  go_wp2_with fail
  refine (iRoom_any _ S g gs s _ _ vk vm _ _ _ H3.out hli hle n (-1) true n0 (by omega)).mono ?_
  rintro e w4 ⟨rfl, b4⟩
  have H4 := Lib.hid (H3.out.below b4)
  have F4 := Lib.hid (F3.out.trans (Fr.of_below (S := S) b4))
  have O4 := Lib.hid (O3.out.on b4.size)
  have k4 := K3.out.below b4 K3.out.lt
  have hgl := H4.out.blk.lt
  clear p0 p1 p2 H3 F3 O3 K3 b4
  by_cases hF : Full n s
  · rw [show decide (¬ Full n s) = false by simp [hF]]
    have e3 := H4.out.blk.cell 3 (u := .int .i64 s.li) rfl
    have f3 := H4.out.blk.frozen 3
    have E := Lib.hid (isoS_full EN.out hF)
    have H5 := Lib.hid (H4.out.num 3 ((s.li : Int) + 1) ⟨s.stk, s.li + 1, s.le, s.is⟩ rfl rfl)
    have F5 := Lib.hid (F4.out.trans (Fr.set w4 ⟨g, 3, none⟩ (.int .i64 ((s.li : Int) + 1)) H4.out.ing))
    clear hF k4
    go_wp2
    go_end0
    rw [E.out]
    exact ⟨⟨rfl, _, H5.out⟩, F5.out⟩
  · rw [show decide (¬ Full n s) = true by simp [hF]]
    have E := Lib.hid (isoS_room EN.out hF)
    have e5 := H4.out.blk.cell 5 (u := .int .i64 s.is) rfl
    have f5 := H4.out.blk.frozen 5
    have H5 := Lib.hid (H4.out.num 5 ((s.is : Int) + 1) ⟨s.stk, s.li, s.le, s.is + 1⟩ rfl rfl)
    have F5 := Lib.hid (F4.out.trans (Fr.set w4 ⟨g, 5, none⟩ (.int .i64 ((s.is : Int) + 1)) H4.out.ing))
    have O5 := Lib.hid (O4.out.on (w' := w4.setCell ⟨g, 5, none⟩ (.int .i64 ((s.is : Int) + 1))) (by simp))
    have k5 := k4.setB g 5 (.int .i64 ((s.is : Int) + 1)) (by omega)
    have e2 := H5.out.blk.cell 2 (u := .pointer (some ⟨gs, 0, none⟩)) rfl
    have p0 := k5.cell 0 (u := .int .i64 n) rfl
    have p1 := k5.cell 1 (u := .int .i64 (-1)) rfl
    have p2 := k5.cell 2 (u := .bool true) rfl
    clear hF k4 k5 H4 F4 O4
    go_wp2
    go_region_with (go_at_call 72; refine (iPut_any _ S g gs ⟨s.stk, s.li, s.le, s.is + 1⟩ _ _ _ _ _ _ _ (by first | exact H5.out | exact H5.out.below (drew_below _)) (by first | exact O5.out | exact O5.out.on (drew_below _).size) hl n (-1) true).mono ?_; rintro e w6 ⟨⟨rfl, u6, h6⟩, f6⟩; have H6 := Lib.hid h6; have F6 := Lib.hid f6; clear h6 f6)
    all_goals
      go_wp2
      go_end0
      rw [E.out]
      exact ⟨⟨rfl, _, H6.out⟩, by first | exact F5.out.trans F6.out | exact (F5.out.trans (Fr.of_below (drew_below _))).trans F6.out⟩
set_option maxRecDepth 100000 in
set_option maxHeartbeats 2000000 in
theorem iCloseIso_any (hO : Open S w) (i : Nat) (hW : WfT s i) (hi : i ≤ 600) (k : Nat) (hkL : k < L.length) (hkC : k < C.length) (hL : L.length ≤ 700) (hC : C.length ≤ 700) :
    Calls Tryz.prog 78 #[.pointer (some ⟨g, 0, none⟩), .int .i64 k] w fun e w' => (e = .returned (.tuple #[]) ∧ ∃ u, TSt w' S g gs (endS s) (L.set k (topT (endS s).stk).lev) (turnC C k (topT (endS s).stk)) vk vm u v2 v3) ∧ Fr S w w' := by
  have hp := hW.pos
  have hl : s.stk.length ≤ 700 := by have := hW.len; omega
  have hli : s.li ≤ 600 := by have := hW.li; omega
  have his : s.is ≤ 600 := by have := hW.is; omega
  have hmany := hW.many
  have WE := Lib.hid hW.ends
  have hpe := hW.ends.pos
  have hle : (endS s).stk.length ≤ 700 := by have := hW.ends.len; omega
  have H := Lib.hid h
  have HO := Lib.hid hO
  have e1 := h.blk.cell 3 (u := .int .i64 s.li) rfl
  have e3 := h.blk.cell 5 (u := .int .i64 s.is) rfl
  have x2 := h.blk.cell 4 (u := .int .i64 s.le) rfl
  have f1 := h.blk.frozen 3
  have f2 := h.blk.frozen 4
  have hgl := h.blk.lt
  clear h hW hO
  by_cases h0 : 0 < s.li
  · have E := Lib.hid (endS_a h0)
    have ec : ((s.li - 1 : Nat) : Int) = (s.li : Int) - 1 := by omega
    have H2 := Lib.hid (H.out.num 3 ((s.li : Int) - 1) ⟨s.stk, s.li - 1, s.le, s.is⟩ rfl (by simp [ec]))
    have F2 := Lib.hid (Fr.set w ⟨g, 3, none⟩ (.int .i64 ((s.li : Int) - 1)) H.out.ing)
    rw [← E.out] at H2
    clear ec hmany
    go_enter Tryz.func78, Tryz.ntmps78
    go_wp2_with fail
    refine (iTake_any _ S g gs _ L C _ _ _ _ _ H2.out hpe hle k hkL hkC hL hC).mono ?_
    rintro e w1 ⟨⟨rfl, h1⟩, f1⟩
    go_wp2
    go_end0
    exact ⟨⟨rfl, _, h1⟩, F2.out.trans f1⟩
  · by_cases h2 : 0 < s.is
    · have E := Lib.hid (endS_b h0 h2)
      have h3 : s.li = 0 := by omega
      have H2 := Lib.hid (H.out.num 4 0 ⟨s.stk, s.li, 0, s.is⟩ rfl rfl)
      have F2 := Lib.hid (Fr.set w ⟨g, 4, none⟩ (.int .i64 0) H.out.ing)
      have MP := Lib.hid (show 0 < isos s.stk by omega)
      clear h0 hmany
      go_enter Tryz.func78, Tryz.ntmps78
      go_wp2
      go_loopw [26] (fun _ wr => ∃ (l : List Tier) (u : Value), Hid (popIso l = popIso s.stk) ∧ Hid (0 < isos l) ∧ l.length ≤ 700 ∧ Hid (TSt wr S g gs ⟨l, s.li, 0, s.is⟩ L C vk vm u v2 v3) ∧ Hid (Fr S w wr)) (fun _ wr => lenAt wr gs)
      case atStart => exact ⟨s.stk, v1, Lib.hid rfl, MP, hl, H2, F2⟩
      case round =>
        clear H2 F2 e1 e3 f1 f2 x2 hgl H MP
        obtain ⟨l, u, hpi, hpo, hll, hst, hfr⟩ := hrel
        have lp := isos_pos hpo.out
        obtain ⟨Au, cu, rfl⟩ := hst.out.r1.form
        have LW := Lib.hid (lenAt_of (hst.out.sbk.cell 0 (u := .slice Au l.length cu) rfl))
        have ep := hst.out.blk.cell 2 (u := .pointer (some ⟨gs, 0, none⟩)) rfl
        have hgw := hst.out.blk.lt
        have ORr := Lib.hid (HO.out.on hfr.out.size)
        go_wp2_with fail
        refine (iTakeOff_any wr S g gs ⟨l, s.li, 0, s.is⟩ L C _ _ _ _ _ hst.out (ORr.out _ (Nat.le_refl _)) lp hll).mono ?_
        rintro e w1 ⟨⟨rfl, u1, h1⟩, f1⟩
        obtain ⟨A1, c1, rfl⟩ := h1.r1.form
        have H1 := Lib.hid h1
        have F1 := Lib.hid (hfr.out.trans f1)
        have hgl1 := h1.blk.lt
        clear h1 f1 hst hfr ep
        have P := Lib.hid (popIso_last l lp)
        have LM : l.dropLast.length = l.length - 1 := List.length_dropLast
        cases hiso : (topT l).iso with
        | true =>
          rw [hiso, if_pos rfl] at P
          have PE := Lib.hid (show l.dropLast = popIso s.stk by rw [← hpi.out, P.out])
          have ec : ((s.is - 1 : Nat) : Int) = (s.is : Int) - 1 := by omega
          have H3 := Lib.hid (H1.out.num 5 ((s.is : Int) - 1) ⟨l.dropLast, s.li, 0, s.is - 1⟩ rfl (by simp [ec]))
          have F3 := Lib.hid (F1.out.trans (Fr.set w1 ⟨g, 5, none⟩ (.int .i64 ((s.is : Int) - 1)) H1.out.ing))
          rw [PE.out, ← E.out] at H3
          have e3 := H1.out.blk.cell 5 (u := .int .i64 s.is) rfl
          have f3 := H1.out.blk.frozen 5
          clear hiso ec LM
          go_wp2_with fail
          refine (iTake_any _ S g gs _ L C _ _ _ _ _ H3.out hpe hle k hkL hkC hL hC).mono ?_
          rintro e w2 ⟨⟨rfl, h4⟩, f4⟩
          have H4 := Lib.hid h4
          have F4 := Lib.hid (F3.out.trans f4)
          clear h4 f4
          go_wp2
          go_end0
          exact ⟨⟨rfl, _, H4.out⟩, F4.out⟩
        | false =>
          have hpo2 := Lib.hid (show 0 < isos l.dropLast by rw [isos_drop lp hiso]; exact hpo.out)
          rw [hiso] at P
          have PE := Lib.hid (show popIso l.dropLast = popIso s.stk by rw [← hpi.out, P.out]; rfl)
          have lw2 := Lib.hid (lenAt_of (H1.out.sbk.cell 0 (u := .slice A1 l.dropLast.length c1) rfl))
          have LM2 := Lib.hid LM
          clear hiso LM
          go_wp2
          go_roundw
          case rel => exact ⟨l.dropLast, _, PE, hpo2, by rw [LM2.out]; omega, H1, F1⟩
          case measure => rw [lw2.out, LW.out, LM2.out]; omega
    · have E := Lib.hid (endS_c h0 h2)
      have h3 : s.li = 0 := by omega
      have h4 : s.is = 0 := by omega
      have H2 := Lib.hid H.out
      rw [← E.out] at H2
      clear h0 h2 hmany
      go_enter Tryz.func78, Tryz.ntmps78
      go_wp2_with fail
      refine (iTake_any _ S g gs _ L C _ _ _ _ _ H2.out hpe hle k hkL hkC hL hC).mono ?_
      rintro e w1 ⟨⟨rfl, h1⟩, f1⟩
      go_wp2
      go_end0
      exact ⟨⟨rfl, _, h1⟩, f1⟩
end
theorem iPass_any (g k : Nat) (w : World) : Calls Tryz.prog 80 #[.pointer (some ⟨g, 0, none⟩), .int .i64 k] w fun e w' => e = .returned (.tuple #[]) ∧ w = w' := by
  go_enter Tryz.func80, Tryz.ntmps80
  go_wp2
  go_end0
  exact ⟨rfl, rfl⟩
/-- which method meets a class -/
def meetF (q : Int) : FuncId := if isEmb q then 76 else if isOp q then 77 else if q = 22 then 78 else if q = 16 then 79 else if q = 9 then 80 else 81
set_option maxRecDepth 100000 in
set_option maxHeartbeats 1000000 in
theorem iMeeting_any (g : Nat) (q : Int) (w : World) :
    Calls Tryz.prog 54 #[.pointer (some ⟨g, 0, none⟩), .int .i64 q] w fun e w' => e = .returned (.func (.func (meetF q)) #[.pointer (some ⟨g, 0, none⟩)] #[]) ∧ w = w' := by
  have hmf : ∀ (fn : Fn) (first cap : Array Value) (w : World), (Instr.makeFunc fn first cap).run Tryz.prog w = .ok (.func fn first cap) w := fun _ _ _ _ => rfl
  have key : ∀ (a b : FuncId) , a = b → Ending.returned (.func (.func a) #[.pointer (some ⟨g, 0, none⟩)] #[]) = .returned (.func (.func b) #[.pointer (some ⟨g, 0, none⟩)] #[]) := fun a b e => by rw [e]
  obtain ⟨m, hm⟩ : ∃ m, Hid (m = meetF q) := ⟨_, Lib.hid rfl⟩
  rw [← hm.out]
  go_enter Tryz.func54, Tryz.ntmps54
  go_wp2
  all_goals
    go_ret
    refine ⟨key _ _ ?_, rfl⟩
    rw [hm.out]
    try simp only [beq_iff_eq, beq_eq_false_iff_ne, ne_eq] at *
    unfold meetF
    repeat' split
    all_goals first | rfl | (exfalso; simp only [isEmb, isOp] at *; omega)
end Go.Proofs.YtcfnhjpmihngdaaGreat
