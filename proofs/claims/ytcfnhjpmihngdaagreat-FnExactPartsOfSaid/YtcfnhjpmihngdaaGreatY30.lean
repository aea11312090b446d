/- The mathematics of FnDeeps: the bound of levels, what is removed has none, nothing hangs on what comes later. -/
import Derived.Test.YtcfnhjpmihngdaaGreatY29
import Derived.Test.YtcfnhjpmihngdaaGreatY08
import Derived.Test.YtcfnhjpmihngdaaGreatY26
namespace Go.Proofs.YtcfnhjpmihngdaaGreat
open Go.RowKit Go.Maps

set_option maxRecDepth 100000 in
set_option maxHeartbeats 2000000 in
theorem tellerOf_any (A : Option Addr) (ks : List Int) (c : Nat) (b : Int) (w : World) (hr : Rd w w.heap.size A (nums .i64 ks)) (hl : ks.length ≤ 600) :
    Calls Tryz.prog 52 #[.slice A ks.length c, .int .i64 b] w fun e w' => (∃ (g gs N cm : Nat) (Am : Option Addr) (v1 v2 v3 : Value), e = .returned (.pointer (some ⟨g, 0, none⟩)) ∧ w.heap.size ≤ N ∧ N ≤ w'.heap.size ∧ Rd w' N Am (nums .i64 (matchN ks)) ∧
      TSt w' (fun k => N ≤ k) g gs ⟨[⟨b, -1, false⟩], 0, 0, 0⟩ (List.replicate ks.length (-1)) ks (.slice A ks.length c) (.slice Am ks.length cm) v1 v2 v3) ∧ Below w.heap.size w w' := by
  go_enter Tryz.func52, Tryz.ntmps52
  go_wp2_with fail
  refine (matchesAmong_any A ks c w _ hr (Nat.le_refl _) hl).mono ?_
  rintro e w1 ⟨⟨vm, rfl, om⟩, b1⟩
  obtain ⟨Am, cm, rfl⟩ := om.form
  have mlen : (matchN ks).length = ks.length := matchN_len ks
  rw [mlen]
  obtain ⟨N, hN⟩ : ∃ N, Hid (N = w1.heap.size) := ⟨_, Lib.hid rfl⟩
  have R1 := Lib.hid (hr.below b1 (Nat.le_refl _))
  have M1 := Lib.hid (by have := om.1; rw [mlen] at this; exact Rd.of this)
  have s1 := b1.size
  have B1 := Lib.hid b1
  clear om b1 hr mlen
  have kS := Blk.new w1 100 #[.slice none 0 0]
  have kA := kS.alloc (.cells #[.int .i64 (-1)] 2)
  have cx := (Blk.new (w1.alloc (.cells #[.slice none 0 0] 100)) 2 #[.int .i64 (-1)]).cell 0 (u := .int .i64 (-1)) rfl
  rw [World.size_alloc] at cx
  have bA := ((Below.refl w1.heap.size w1).alloc (Nat.le_refl _) (.cells #[.slice none 0 0] 100)).alloc (by simp) (.cells #[.int .i64 (-1)] 2)
  have KA := Lib.hid kA
  have CX := Lib.hid cx
  have BA := Lib.hid bA
  clear kS kA cx bA
  go_wp2_with fail
  refine (repeat_any (-1) (w1.heap.size + 1) ks.length _ CX.out (by omega)).mono ?_
  rintro e w2 ⟨⟨v2, rfl, o2⟩, b2⟩
  have K2 := Lib.hid (KA.out.below b2 KA.out.lt)
  have B2 := Lib.hid (below_on BA.out b2 (Nat.le_refl _))
  have s2 : w1.heap.size + 2 ≤ w2.heap.size := by have := b2.size; simpa using this
  have OL := Lib.hid (show Own w2 (w1.heap.size + 2) w2.heap.size 2 .i64 v2 (List.replicate ks.length (-1)) by have := o2; rw [World.size_alloc, World.size_alloc] at this; exact this)
  obtain ⟨A2, c2, rfl⟩ := o2.form
  rw [List.length_replicate] at *
  have R2 := Lib.hid (R1.out.below B2.out s1)
  clear o2 b2 KA CX BA
  go_wp2_with fail
  refine (cloneInt_own (.slice A ks.length c) ks w2 w.heap.size ⟨A, c, rfl, R2.out⟩ (by omega) (by omega)).mono ?_
  rintro e w3 ⟨⟨v3, rfl, o3⟩, b3⟩
  obtain ⟨A3, c3, rfl⟩ := o3.form
  have OL3 := Lib.hid (OL.out.below b3 (Nat.le_refl _))
  have OC3 := Lib.hid o3
  have K3 := Lib.hid (K2.out.below b3 K2.out.lt)
  have B3 := Lib.hid (below_on B2.out b3 (Nat.le_refl _))
  have s3 := b3.size
  clear o3 b3
  have kT := Blk.new w3 85 #[.slice A ks.length c, .slice Am ks.length cm, .pointer (some ⟨w1.heap.size, 0, none⟩), .int .i64 0, .int .i64 0, .int .i64 0, .int .i64 0, .slice A2 ks.length c2, .slice A3 ks.length c3]
  have T4 : Hid (TSt (w3.alloc (.cells #[.slice A ks.length c, .slice Am ks.length cm, .pointer (some ⟨w1.heap.size, 0, none⟩), .int .i64 0, .int .i64 0, .int .i64 0, .int .i64 0, .slice A2 ks.length c2, .slice A3 ks.length c3] 85))
      (fun k => N ≤ k) w3.heap.size w1.heap.size ⟨[], 0, 0, 0⟩ (List.replicate ks.length (-1)) ks (.slice A ks.length c) (.slice Am ks.length cm) (.slice none 0 0) (.slice A2 ks.length c2) (.slice A3 ks.length c3)) := Lib.hid (by
    have l2 := OL3.out.lt
    have l3 := OC3.out.lt
    have h2 := own_more (OL3.out.alloc (.cells #[.slice A ks.length c, .slice Am ks.length cm, .pointer (some ⟨w1.heap.size, 0, none⟩), .int .i64 0, .int .i64 0, .int .i64 0, .int .i64 0, .slice A2 ks.length c2, .slice A3 ks.length c3] 85)).1 (Nat.zero_le _)
    have h3 := own_more (OC3.out.alloc (.cells #[.slice A ks.length c, .slice Am ks.length cm, .pointer (some ⟨w1.heap.size, 0, none⟩), .int .i64 0, .int .i64 0, .int .i64 0, .int .i64 0, .slice A2 ks.length c2, .slice A3 ks.length c3] 85)).1 (Nat.zero_le _)
    have hn := hN.out
    refine ⟨kT, K3.out.alloc _, ?_, ?_, by omega, Row.nil _ _ _ _ _, ⟨h2, fun b hb => ?_⟩, ⟨h3, fun b hb => ?_⟩, by simp [Value.ownBlock], fun b hb => ?_, fun b hb => ?_, .inl rfl, .inl rfl, ?_⟩
    · show N ≤ w3.heap.size; omega
    · show N ≤ w1.heap.size; omega
    · have := l2 b hb; exact ⟨show N ≤ b by omega, by omega⟩
    · have := l3 b hb; exact ⟨show N ≤ b by omega, by omega⟩
    · have := l2 b hb; omega
    · have := l3 b hb; omega
    · exact own_disj OL3.out OC3.out (.inl (Nat.le_refl _)))
  have NL := Lib.hid hN.out
  have e2 := T4.out.blk.cell 2 (u := .pointer (some ⟨w1.heap.size, 0, none⟩)) rfl
  clear kT
  go_wp2_with fail
  refine (iPut_any _ (fun k => N ≤ k) w3.heap.size w1.heap.size ⟨[], 0, 0, 0⟩ _ _ _ _ _ _ _ T4.out (fun x hx => by show N ≤ x; have := NL.out; simp at hx; omega) (by simp) b (-1) false).mono ?_
  rintro e w5 ⟨⟨rfl, u5, h5⟩, f5⟩
  have T5 := Lib.hid h5
  have s5 : w3.heap.size + 1 ≤ w5.heap.size := by have := f5.size; simpa using this
  have B5 := Lib.hid (f5.below (B := N) (by have := NL.out; simp; omega) (fun x hx hh => by have : N ≤ x := hh; omega))
  have B4 := Lib.hid (Below.trans (B3.out.alloc B3.out.size (.cells #[.slice A ks.length c, .slice Am ks.length cm, .pointer (some ⟨w1.heap.size, 0, none⟩), .int .i64 0, .int .i64 0, .int .i64 0, .int .i64 0, .slice A2 ks.length c2, .slice A3 ks.length c3] 85)) (NL.out ▸ B5.out))
  have M5 := Lib.hid (M1.out.below B4.out (Nat.le_refl _))
  have BW := Lib.hid (below_on B1.out B4.out (Nat.le_refl _))
  clear h5 f5 e2
  go_wp2
  go_ret
  exact ⟨⟨_, _, N, cm, Am, _, _, _, rfl, by have := NL.out; omega, by have := NL.out; omega, by rw [NL.out]; exact M5.out, T5.out⟩, BW.out⟩
end Go.Proofs.YtcfnhjpmihngdaaGreat

namespace Go.Proofs.YtcfnhjpmihngdaaGreat
open Go.RowKit Go.Maps

/-- what ExplicitOf answers -/
def explL (zs : List Int) (b : Int) : List Int := if paraF zs b = 0 then levN (classesN zs) b else []
def explC (zs : List Int) (b : Int) : List Int := if paraF zs b = 0 then clsN (classesN zs) b else []
theorem explL_len (zs : List Int) (b : Int) : (explL zs b).length ≤ 600 := by
  unfold explL
  split
  · have := (textF_zero (paraF_zero (by assumption)).1).1
    unfold levN
    rw [(eat_len _ _ _).1, classesN_len]; exact this
  · simp
theorem explC_len (zs : List Int) (b : Int) : (explC zs b).length ≤ 600 := by
  unfold explC
  split
  · have := (textF_zero (paraF_zero (by assumption)).1).1
    unfold clsN
    rw [(eat_len _ _ _).2, classesN_len]; exact this
  · simp
/-- a slice's length is within its capacity -/
def CapV (v : Value) : Prop := ∀ A n c, v = .slice A n c → n ≤ c ∧ c ≤ maxLen
theorem Own.capv {w : World} {lo hi : Nat} {t : TypeId} {kd : IntKind} {v : Value} {zs : List Int} (h : Own w lo hi t kd v zs) : CapV v := by
  intro A n c e
  subst e
  obtain ⟨A', c', e⟩ := h.form
  injection e with e1 e2 e3
  subst e1; subst e2; subst e3
  exact own_cap h.1
theorem Row.upN {w : World} {S : Nat → Prop} {g : Nat} {t : TypeId} {v : Value} {zs : List Int} {lo : Nat} (h : Row w S g t 1 v zs.length (nums .i64 zs)) (hlo : ∀ b, v.ownBlock = some b → lo ≤ b) : Own w lo w.heap.size t .i64 v zs := by
  refine ⟨⟨h.1.1, ?_⟩, h.lt⟩
  rcases h.1.2 with hn | ⟨b, cap, cur, rfl, hb, rest⟩
  · exact .inl hn
  · exact .inr ⟨b, cap, cur, rfl, hlo b rfl, rest⟩
theorem repl_step (L : List Int) (n k : Nat) (x : Int) (hL : L.length = k) (hk : k < n) : (L ++ List.replicate (n - k) (-1 : Int)).set k x = (L ++ [x]) ++ List.replicate (n - (k + 1)) (-1) := rep_set L n k (-1) x hL hk
theorem repl_same (L : List Int) (n k : Nat) (hk : k < n) : L ++ List.replicate (n - k) (-1 : Int) = (L ++ [-1]) ++ List.replicate (n - (k + 1)) (-1) := by
  rw [show n - k = (n - (k + 1)) + 1 by omega, List.replicate_succ, List.append_assoc]; rfl
theorem drop_same (C ks : List Int) (k : Nat) (hk : k < ks.length) : C ++ ks.drop k = (C ++ [nth ks k]) ++ ks.drop (k + 1) := by rw [drop_nth ks k hk, List.append_assoc]; rfl
theorem turn_step (C ks : List Int) (k : Nat) (t : Tier) (hC : C.length = k) (hk : k < ks.length) : turnC (C ++ ks.drop k) k t = (C ++ [if t.way = -1 then nth ks k else t.way]) ++ ks.drop (k + 1) := by
  unfold turnC
  split
  · exact drop_same C ks k hk
  · rw [drop_nth ks k hk, List.set_append, if_neg (by omega), hC, Nat.sub_self, List.append_assoc]; rfl
theorem meetF_emb {q : Int} (h : isEmb q) : meetF q = 76 := by unfold meetF; rw [if_pos h]
theorem meetF_op {q : Int} (h1 : ¬ isEmb q) (h : isOp q) : meetF q = 77 := by unfold meetF; rw [if_neg h1, if_pos h]
theorem meetF_22 : meetF 22 = 78 := rfl
theorem meetF_16 : meetF 16 = 79 := rfl
theorem meetF_9 : meetF 9 = 80 := rfl
theorem meetF_any {q : Int} (h1 : ¬ isEmb q) (h2 : ¬ isOp q) (h3 : ¬ q = 22) (h4 : ¬ q = 16) (h5 : ¬ q = 9) : meetF q = 81 := by unfold meetF; rw [if_neg h1, if_neg h2, if_neg h3, if_neg h4, if_neg h5]

set_option maxRecDepth 100000 in
set_option maxHeartbeats 8000000 in
theorem explicitOf_val (v : Value) (zs : List Int) (b : Int) (w : World) (B : Nat) (h : Sees w B .i64 v zs) (hB : B ≤ w.heap.size) (l : zs.length < 1000000000) (_ : ∀ n ∈ zs, (Lit.int .i64 n).wf = true) (_ : CapV v) (_ : (Lit.int .i64 b).wf = true) :
    Calls Tryz.prog 37 #[v, .int .i64 b] w fun e w' => (∃ u1 u2, e = .returned (.agg #[.int .i64 (paraF zs b), u1, u2]) ∧ Own w' w.heap.size w'.heap.size 2 .i64 u1 (explL zs b) ∧ Own w' w.heap.size w'.heap.size 2 .i64 u2 (explC zs b) ∧
      (u1.ownBlock = none ∨ u1.ownBlock ≠ u2.ownBlock)) ∧ Below w.heap.size w w' := by
  obtain ⟨A, c, rfl, hr⟩ := h
  have HR := Lib.hid hr
  clear hr
  have b0 := (Below.refl w.heap.size w).alloc (Nat.le_refl _) (.cells #[.int .i64 0, .slice none 0 0, .slice none 0 0] 71)
  have k0 := Blk.new w 71 #[.int .i64 0, .slice none 0 0, .slice none 0 0]
  go_enter Tryz.func37, Tryz.ntmps37
  go_wp2_with fail
  refine (paraFault_any A zs c b _ B (HR.out.below ((Below.refl B w).alloc hB _) (Nat.le_refl _)) (by simp; omega) l).mono ?_
  rintro e w1 ⟨rfl, b1⟩
  have k1 := k0.below b1 k0.lt
  have b2 := below_on b0 b1 (Nat.le_refl _)
  have R1 := Lib.hid ((HR.out.below ((Below.refl B w).alloc hB _) (Nat.le_refl _)).below b1 (by simp; omega))
  have s1 := k1.lt
  by_cases hz : paraF zs b = 0
  · have EL := Lib.hid (show explL zs b = levN (classesN zs) b by unfold explL; rw [if_pos hz])
    have EC := Lib.hid (show explC zs b = clsN (classesN zs) b by unfold explC; rw [if_pos hz])
    have HZ := Lib.hid hz
    have PZ := paraF_zero hz
    have HTZ := Lib.hid PZ.1
    have HBb := Lib.hid (show 0 ≤ b ∧ b ≤ 1 from ⟨PZ.2.1, PZ.2.2.1⟩)
    have hll := (textF_zero PZ.1).1
    have K1 := Lib.hid k1
    have B2 := Lib.hid b2
    rw [hz]
    clear hz b0 k0 b1 k1 b2 PZ
    obtain ⟨ks, hks⟩ : ∃ ks, Hid (ks = classesN zs) := ⟨_, Lib.hid rfl⟩
    rw [← hks.out] at EL EC
    go_wp2_with fail
    refine (classesOf_any A zs c w1 B R1.out (by omega) HTZ.out).mono ?_
    rintro e w2 ⟨⟨vk, rfl, o2⟩, b3⟩
    rw [← hks.out] at o2
    have hkl : ks.length ≤ 600 := by rw [hks.out, classesN_len]; exact hll
    obtain ⟨Ak, ck, rfl⟩ := o2.form
    have hcap := own_cap o2.1
    have K2 := Lib.hid (K1.out.below b3 K1.out.lt)
    have B3 := Lib.hid (below_on B2.out b3 (Nat.le_refl _))
    have R2 := Lib.hid (Rd.of o2.1)
    have s2 := K2.out.lt
    clear o2 b3
    go_wp2_with fail
    refine (tellerOf_any Ak ks ck b w2 R2.out hkl).mono ?_
    rintro e w3 ⟨⟨g, gs, N, cm, Am, u, v2, v3, rfl, hn1, hn2, rm, h3⟩, b4⟩
    obtain ⟨S, hS⟩ : ∃ S : Nat → Prop, Hid (S = fun k => N ≤ k) := ⟨_, Lib.hid rfl⟩
    rw [← hS.out] at h3
    have SO : Hid (∀ w' : World, N ≤ w'.heap.size → Open S w') := Lib.hid (by intro w' hw k hk; rw [hS.out]; show N ≤ k; omega)
    have SB : Hid (∀ x, x < N → ¬ S x) := Lib.hid (by intro x hx; rw [hS.out]; show ¬ N ≤ x; omega)
    have SL : Hid (∀ x, S x → N ≤ x) := Lib.hid (by intro x hx; rw [hS.out] at hx; exact hx)
    have K3 := Lib.hid (K2.out.below b4 K2.out.lt)
    have B4 := Lib.hid (below_on B3.out b4 (Nat.le_refl _))
    have RK := Lib.hid ((R2.out.below b4 (Nat.le_refl _)).more hn1)
    have RM := Lib.hid rm
    obtain ⟨A2, c2, rfl⟩ := h3.r2.form
    obtain ⟨A3, c3, rfl⟩ := h3.r3.form
    rw [List.length_replicate] at h3
    have e0 := h3.blk.cell 0 (u := .slice Ak ks.length ck) rfl
    have hg3 := h3.blk.lt
    have LE0 : Hid ((⟨[⟨b, -1, false⟩], 0, 0, 0⟩, [], []) = eat ks b 0) := Lib.hid rfl
    have T3 : Hid (TSt w3 S g gs ⟨[⟨b, -1, false⟩], 0, 0, 0⟩ ([] ++ List.replicate (ks.length - 0) (-1)) ([] ++ ks.drop 0) (.slice Ak ks.length ck) (.slice Am ks.length cm) u (.slice A2 ks.length c2) (.slice A3 ks.length c3)) := Lib.hid h3
    have F3 := Lib.hid (Fr.refl S w3)
    clear h3 rm b4 R2 K2 B3 K1 B2
    go_wp2
    go_loopw [26] (fun i wr => ∃ (k : Nat) (s : Tell) (L C : List Int) (u : Value), k ≤ ks.length ∧ i = .int .i64 k ∧ Hid ((s, L, C) = eat ks b k) ∧ Hid (TSt wr S g gs s (L ++ List.replicate (ks.length - k) (-1)) (C ++ ks.drop k) (.slice Ak ks.length ck) (.slice Am ks.length cm) u (.slice A2 ks.length c2) (.slice A3 ks.length c3)) ∧
      Hid (Fr S w3 wr)) (fun i _ => ks.length - (intOf i).toNat)
    case atStart => exact ⟨0, _, _, _, _, by omega, rfl, LE0, T3, F3⟩
    case round =>
      clear LE0 T3 F3 e0
      obtain ⟨k, s, L, C, u, hk, rfl, EX, hst, hfr⟩ := hrel
      have szr : w3.heap.size ≤ wr.heap.size := hfr.out.size
      by_cases hlt : k < ks.length
      · have WF : Hid (WfT s k) := Lib.hid (by have := eat_wf ks b HBb.out k; rw [← EX.out] at this; exact this)
        have LL : L.length = k := by have := (eat_len ks b k).1; rw [← EX.out] at this; exact this
        have CL : C.length = k := by have := (eat_len ks b k).2; rw [← EX.out] at this; exact this
        have LLH := Lib.hid LL
        have CLH := Lib.hid CL
        have lw1 : Hid ((L ++ List.replicate (ks.length - k) (-1 : Int)).length = ks.length) := Lib.hid (by rw [List.length_append, List.length_replicate]; omega)
        have lw2 : Hid ((C ++ ks.drop k).length = ks.length) := Lib.hid (by rw [List.length_append, List.length_drop]; omega)
        have RKr := Lib.hid (RK.out.fr hfr.out hn2 SB.out)
        have RMr := Lib.hid (RM.out.fr hfr.out hn2 SB.out)
        have Or := Lib.hid (SO.out wr (by omega))
        obtain ⟨bk, off, rfl, hbk, hck⟩ := RKr.out.int (by omega)
        have hc0 := hck k hlt
        clear hck LL CL
        obtain ⟨q, hq⟩ : ∃ q, Hid (q = nth ks k) := ⟨_, Lib.hid rfl⟩
        rw [← hq.out] at hc0
        go_wp2_with fail
        refine (iMeeting_any g q wr).mono ?_
        rintro e w' ⟨rfl, rfl⟩
        clear hc0
        by_cases hE : isEmb q
        · rw [meetF_emb hE]
          have hE2 := Lib.hid (show isEmb (nth ks k) by rw [← hq.out]; exact hE)
          have E := Lib.hid (by have q := eat_emb (ks := ks) (b := b) (k := k) hE2.out; rw [← EX.out] at q; exact q)
          clear hE
          go_wp2_with fail
          refine (iOpenEmb_any _ S g gs s _ _ _ _ _ _ _ hst.out Or.out k WF.out (by omega) ks _ ck N rfl RKr.out (by omega) k hlt hkl hE2.out).mono ?_
          rintro e w7 ⟨⟨rfl, u7, h7⟩, f7⟩
          rw [repl_same L ks.length k hlt, drop_same C ks k hlt] at h7
          have H7 := Lib.hid h7
          have F7 := Lib.hid (hfr.out.trans f7)
          clear h7 f7 hst hfr
          go_wp2
          go_roundw
          case rel => exact ⟨k + 1, _, _, _, _, by omega, by go_num, Lib.hid E.out.symm, H7, F7⟩
          case measure => first | omega | (simp [intOf]; omega)
        · by_cases hOp : isOp q
          · rw [meetF_op hE hOp]
            have hO2 := Lib.hid (show isOp (nth ks k) by rw [← hq.out]; exact hOp)
            have E := Lib.hid (by have q := eat_iso (ks := ks) (b := b) (k := k) hO2.out; rw [← EX.out] at q; exact q)
            clear hE hOp
            go_wp2_with fail
            refine (iOpenIso_any _ S g gs s _ _ _ _ _ _ _ hst.out Or.out k WF.out (by omega) ks _ _ ck cm N rfl RKr.out rfl RMr.out (by omega) SB.out hcap.1 k hlt hkl hO2.out (by rw [lw1.out]; exact hlt) (by rw [lw2.out]; exact hlt) (by rw [lw1.out]; omega) (by rw [lw2.out]; omega)).mono ?_
            rintro e w7 ⟨⟨rfl, u7, h7⟩, f7⟩
            rw [repl_step L ks.length k _ LLH.out hlt, turn_step C ks k _ CLH.out hlt] at h7
            have H7 := Lib.hid h7
            have F7 := Lib.hid (hfr.out.trans f7)
            clear h7 f7 hst hfr
            go_wp2
            go_roundw
            case rel => exact ⟨k + 1, _, _, _, _, by omega, by go_num, Lib.hid E.out.symm, H7, F7⟩
            case measure => first | omega | (simp [intOf]; omega)
          · by_cases h22 : q = 22
            · subst h22
              rw [meetF_22]
              have E := Lib.hid (by have q := eat_end (ks := ks) (b := b) (k := k) hq.out.symm; rw [← EX.out] at q; exact q)
              clear hE hOp
              go_wp2_with fail
              refine (iCloseIso_any _ S g gs s _ _ _ _ _ _ _ hst.out Or.out k WF.out (by omega) k (by rw [lw1.out]; exact hlt) (by rw [lw2.out]; exact hlt) (by rw [lw1.out]; omega) (by rw [lw2.out]; omega)).mono ?_
              rintro e w7 ⟨⟨rfl, u7, h7⟩, f7⟩
              rw [repl_step L ks.length k _ LLH.out hlt, turn_step C ks k _ CLH.out hlt] at h7
              have H7 := Lib.hid h7
              have F7 := Lib.hid (hfr.out.trans f7)
              clear h7 f7 hst hfr
              go_wp2
              go_roundw
              case rel => exact ⟨k + 1, _, _, _, _, by omega, by go_num, Lib.hid E.out.symm, H7, F7⟩
              case measure => first | omega | (simp [intOf]; omega)
            · by_cases h16 : q = 16
              · subst h16
                rw [meetF_16]
                have E := Lib.hid (by have q := eat_pop (ks := ks) (b := b) (k := k) hq.out.symm; rw [← EX.out] at q; exact q)
                clear hE hOp h22
                go_wp2_with fail
                refine (iCloseEmb_any _ S g gs s _ _ _ _ _ _ _ hst.out Or.out k WF.out (by omega) k).mono ?_
                rintro e w7 ⟨⟨rfl, u7, h7⟩, f7⟩
                rw [repl_same L ks.length k hlt, drop_same C ks k hlt] at h7
                have H7 := Lib.hid h7
                have F7 := Lib.hid (hfr.out.trans f7)
                clear h7 f7 hst hfr
                go_wp2
                go_roundw
                case rel => exact ⟨k + 1, _, _, _, _, by omega, by go_num, Lib.hid E.out.symm, H7, F7⟩
                case measure => first | omega | (simp [intOf]; omega)
              · by_cases h9 : q = 9
                · subst h9
                  rw [meetF_9]
                  have E := Lib.hid (by have q := eat_bn (ks := ks) (b := b) (k := k) hq.out.symm; rw [← EX.out] at q; exact q)
                  clear hE hOp h22 h16
                  go_wp2_with fail
                  refine (iPass_any g k wr).mono ?_
                  rintro e w7 ⟨rfl, rfl⟩
                  have h7 := hst.out
                  rw [repl_same L ks.length k hlt, drop_same C ks k hlt] at h7
                  have H7 := Lib.hid h7
                  have F7 := hfr
                  clear h7
                  go_wp2
                  go_roundw
                  case rel => exact ⟨k + 1, _, _, _, _, by omega, by go_num, Lib.hid E.out.symm, H7, F7⟩
                  case measure => first | omega | (simp [intOf]; omega)
                · rw [meetF_any hE hOp h22 h16 h9]
                  have E := Lib.hid (by have q := eat_any (ks := ks) (b := b) (k := k) (by rw [← hq.out]; exact hE) (by rw [← hq.out]; exact hOp) (by rw [← hq.out]; exact h22) (by rw [← hq.out]; exact h16) (by rw [← hq.out]; exact h9); rw [← EX.out] at q; exact q)
                  clear hE hOp h22 h16 h9
                  go_wp2_with fail
                  refine (iTake_any _ S g gs s _ _ _ _ _ _ _ hst.out WF.out.pos (by have := WF.out.len; omega) k (by rw [lw1.out]; exact hlt) (by rw [lw2.out]; exact hlt) (by rw [lw1.out]; omega) (by rw [lw2.out]; omega)).mono ?_
                  rintro e w7 ⟨⟨rfl, h7⟩, f7⟩
                  rw [repl_step L ks.length k _ LLH.out hlt, turn_step C ks k _ CLH.out hlt] at h7
                  have H7 := Lib.hid h7
                  have F7 := Lib.hid (hfr.out.trans f7)
                  clear h7 f7 hst hfr
                  go_wp2
                  go_roundw
                  case rel => exact ⟨k + 1, _, _, _, _, by omega, by go_num, Lib.hid E.out.symm, H7, F7⟩
                  case measure => first | omega | (simp [intOf]; omega)
      · have hkn : k = ks.length := by omega
        have h7 := hst.out
        rw [show ks.length - k = 0 by omega, List.replicate_zero, List.append_nil, List.drop_of_length_le (by omega), List.append_nil] at h7
        have EL2 := Lib.hid (show L = levN ks b by unfold levN; rw [← hkn, ← EX.out])
        have EC2 := Lib.hid (show C = clsN ks b by unfold clsN; rw [← hkn, ← EX.out])
        have lL : L.length = ks.length := by have q := (eat_len ks b k).1; rw [← EX.out] at q; exact (show L.length = k from q).trans hkn
        have lC : C.length = ks.length := by have q := (eat_len ks b k).2; rw [← EX.out] at q; exact (show C.length = k from q).trans hkn
        have o2 := Row.upN h7.r2 (fun x hx => SL.out x (h7.r2.2 x hx).1)
        have o3 := Row.upN h7.r3 (fun x hx => SL.out x (h7.r3.2 x hx).1)
        have O2 := Lib.hid o2
        have O3 := Lib.hid o3
        have D23 := Lib.hid h7.d23
        have e6 := h7.blk.cell 6 (u := .int .i64 0) rfl
        have e7 := h7.blk.cell 7 (u := .slice A2 ks.length c2) rfl
        have e8 := h7.blk.cell 8 (u := .slice A3 ks.length c3) rfl
        have bN := hfr.out.below hn2 SB.out
        have k7 := K3.out.below bN (by omega)
        have hd0 := k7.cell 0 (u := .int .i64 0) rfl
        have hd1 := k7.cell 1 (u := .slice none 0 0) rfl
        have hd2 := k7.cell 2 (u := .slice none 0 0) rfl
        have hf0 := k7.frozen 0
        have hf1 := k7.frozen 1
        have hf2 := k7.frozen 2
        have B7 := Lib.hid (B4.out.trans (bN.mono (by omega)))
        clear h7 o2 o3 hst hfr hkn lL lC bN k7
        go_wp2
        refine bodyPost_ret (v := .agg #[.int .i64 0, .slice A2 ks.length c2, .slice A3 ks.length c3]) (by simp [results, Tryz.results37, go_sem, hd0, hd1, hd2]) rfl ?_
        rw [EL.out, EC.out, HZ.out, ← EL2.out, ← EC2.out]
        refine ⟨⟨_, _, rfl, ?_, ?_, D23.out⟩, ((B7.out.setCell (by simp) _).setCell (by simp) _).setCell (by simp) _⟩
        · exact (((O2.out.set _ _ (.inl (by simp; omega))).set _ _ (.inl (by simp; omega))).set _ _ (.inl (by simp; omega))).more (by omega) (by simp)
        · exact (((O3.out.set _ _ (.inl (by simp; omega))).set _ _ (.inl (by simp; omega))).set _ _ (.inl (by simp; omega))).more (by omega) (by simp)
  · have EL := Lib.hid (show explL zs b = [] by unfold explL; rw [if_neg hz])
    have EC := Lib.hid (show explC zs b = [] by unfold explC; rw [if_neg hz])
    obtain ⟨q, hq⟩ : ∃ q, Hid (q = paraF zs b) := ⟨_, Lib.hid rfl⟩
    have hne : (q != 0) = true := by rw [hq.out]; simpa using hz
    have hd0 := k1.cell 0 (u := .int .i64 0) rfl
    have hd1 := k1.cell 1 (u := .slice none 0 0) rfl
    have hd2 := k1.cell 2 (u := .slice none 0 0) rfl
    have hf0 := k1.frozen 0
    have hf1 := k1.frozen 1
    have hf2 := k1.frozen 2
    clear hz
    rw [← hq.out]
    go_wp2
    refine bodyPost_ret (v := .agg #[.int .i64 q, .slice none 0 0, .slice none 0 0]) (by simp [results, Tryz.results37, go_sem, hd0, hd1, hd2]) rfl ?_
    rw [EL.out, EC.out, ← hq.out]
    exact ⟨⟨_, _, rfl, Own.nil _ _ _ _ _, Own.nil _ _ _ _ _, .inl rfl⟩, ((b2.setCell (by simp) _).setCell (by simp) _).setCell (by simp) _⟩
end Go.Proofs.YtcfnhjpmihngdaaGreat

namespace Go.Proofs.YtcfnhjpmihngdaaGreat

theorem popR_mem : ∀ (l : List Tier) (e : Tier), e ∈ popR l → e ∈ l
  | [], _, h => by simp [popR] at h
  | x :: l, e, h => by
    unfold popR at h
    split at h
    · simp [h]
    · simp [popR_mem l e h]
theorem popIso_mem (l : List Tier) (e : Tier) (h : e ∈ popIso l) : e ∈ l := by
  unfold popIso at h
  have := popR_mem l.reverse e (by simpa using h)
  simpa using this
/-- no level below the base -/
def Floor (b : Int) (s : Tell) : Prop := ∀ e ∈ s.stk, b ≤ e.lev
theorem Floor.push {b : Int} {s : Tell} (h : Floor b s) (e : Tier) (he : b ≤ e.lev) (li le is : Nat) : Floor b ⟨s.stk ++ [e], li, le, is⟩ := by
  intro x hx
  simp only [List.mem_append, List.mem_cons, List.not_mem_nil, or_false] at hx
  rcases hx with hx | rfl
  · exact h x hx
  · exact he
theorem Floor.step {b : Int} {s : Tell} {i : Nat} (h : Floor b s) (hw : WfT s i) (own : Bool) (k : Int) : Floor b (stepS own k s) := by
  have tb := h _ (topT_mem _ hw.pos)
  have nl := fun left => nextL_low left s.stk hw.top.1
  unfold stepS
  split
  · unfold embS
    split
    · split
      · exact h
      · exact h
    · exact h.push _ (by have := nl (leftK k); show b ≤ nextL _ _; omega) _ _ _
  · split
    · unfold isoS
      split
      · exact h
      · exact h.push _ (by have := nl own; show b ≤ nextL _ _; omega) _ _ _
    · split
      · unfold endS
        split
        · exact h
        · split
          · intro e he; exact h e (popIso_mem _ _ he)
          · exact h
      · split
        · unfold popS
          split
          · exact h
          · split
            · exact h
            · split
              · intro e he; exact h e (List.dropLast_subset _ he)
              · exact h
        · exact h
theorem eat_floor (ks : List Int) (b : Int) (hb : 0 ≤ b ∧ b ≤ 1) : ∀ i, Floor b (eat ks b i).1
  | 0 => by
    intro e he
    simp only [eat, List.mem_cons, List.not_mem_nil, or_false] at he
    subst he
    exact Int.le_refl _
  | i + 1 => (eat_floor ks b hb i).step (eat_wf ks b hb i) _ _
theorem Floor.ends {b : Int} {s : Tell} (h : Floor b s) : Floor b (endS s) := by
  unfold endS
  split
  · exact h
  · split
    · intro e he; exact h e (popIso_mem _ _ he)
    · exact h
/-- what stays is kept: the i-th level -/
theorem eat_nth (ks : List Int) (b : Int) (i : Nat) : ∀ n, i < n → nth (eat ks b n).2.1 i = lvS (nth ks i) (eat ks b i).1
  | 0, h => by omega
  | n + 1, h => by
    rw [eat_succ]
    have hl := (eat_len ks b n).1
    by_cases e : i = n
    · subst e
      show nth ((eat ks b i).2.1 ++ [lvS (nth ks i) (eat ks b i).1]) i = _
      have := nth_right (eat ks b i).2.1 (lvS (nth ks i) (eat ks b i).1)
      rw [hl] at this; exact this
    · show nth ((eat ks b n).2.1 ++ [lvS (nth ks n) (eat ks b n).1]) i = _
      rw [nth_left _ _ _ (by omega)]; exact eat_nth ks b i n (by omega)
theorem lev_facts (ks : List Int) (b : Int) (hb : 0 ≤ b ∧ b ≤ 1) (i : Nat) (hi : i < ks.length) :
    (gone (nth ks i) = true ∧ nth (levN ks b) i = -1) ∨ (gone (nth ks i) = false ∧ b ≤ nth (levN ks b) i ∧ nth (levN ks b) i ≤ 125 ∧ 0 ≤ nth (levN ks b) i) := by
  have hw := eat_wf ks b hb i
  have hf := eat_floor ks b hb i
  have e : nth (levN ks b) i = lvS (nth ks i) (eat ks b i).1 := eat_nth ks b i _ hi
  rw [e]
  have key : b ≤ (topT (atS (nth ks i) (eat ks b i).1).stk).lev ∧ 0 ≤ (topT (atS (nth ks i) (eat ks b i).1).stk).lev ∧ (topT (atS (nth ks i) (eat ks b i).1).stk).lev ≤ 125 := by
    unfold atS
    split
    · have t := topT_mem _ hw.ends.pos
      have h1 := hw.ends.lev _ t
      exact ⟨hf.ends _ t, h1.1, h1.2.1⟩
    · have t := topT_mem _ hw.pos
      have h1 := hw.lev _ t
      exact ⟨hf _ t, h1.1, h1.2.1⟩
  cases hg : gone (nth ks i)
  · refine .inr ⟨rfl, ?_⟩
    have : lvS (nth ks i) (eat ks b i).1 = (topT (atS (nth ks i) (eat ks b i).1).stk).lev := by unfold lvS; rw [hg]; rfl
    rw [this]; exact ⟨key.1, key.2.2, key.2.1⟩
  · exact .inl ⟨rfl, by unfold lvS; rw [hg]; rfl⟩
/-- no isolate of its own way -/
def NoOwn (ks : List Int) : Prop := ∀ i, i < ks.length → nth ks i ≠ 21
theorem leftOf_plain {ks : List Int} {i : Nat} (h : nth ks i ≠ 21) : leftKs ks i = decide (nth ks i = 20) := by unfold leftKs; rw [if_neg h]
theorem eat_cut (ks : List Int) (b : Int) (c : Nat) (hc : c ≤ ks.length) (hn : NoOwn ks) : ∀ i, i ≤ c → eat (ks.take c) b i = eat ks b i
  | 0, _ => rfl
  | i + 1, h => by
    have e : nth (ks.take c) i = nth ks i := nth_take ks c i (by omega)
    have l1 := leftOf_plain (hn i (by omega))
    have l2 : leftKs (ks.take c) i = decide (nth (ks.take c) i = 20) := leftOf_plain (by rw [e]; exact hn i (by omega))
    rw [eat_succ, eat_succ, eat_cut ks b c hc hn i (by omega), l1, l2, e]
theorem eat_take (ks : List Int) (b : Int) (c : Nat) : ∀ n, c ≤ n → (eat ks b n).2.1.take c = (eat ks b c).2.1 ∧ (eat ks b n).2.2.take c = (eat ks b c).2.2
  | 0, h => by obtain rfl : c = 0 := by omega
               exact ⟨rfl, rfl⟩
  | n + 1, h => by
    by_cases e : c = n + 1
    · subst e
      have := eat_len ks b (n + 1)
      exact ⟨List.take_of_length_le (by omega), List.take_of_length_le (by omega)⟩
    · have ih := eat_take ks b c n (by omega)
      have l := eat_len ks b n
      rw [eat_succ]
      refine ⟨?_, ?_⟩
      · show ((eat ks b n).2.1 ++ _).take c = _
        rw [List.take_append_of_le_length (by omega)]; exact ih.1
      · show ((eat ks b n).2.2 ++ _).take c = _
        rw [List.take_append_of_le_length (by omega)]; exact ih.2
theorem classesN_take (zs : List Int) (c : Nat) : classesN (zs.take c) = (classesN zs).take c := by unfold classesN; rw [List.map_take]
theorem hasB_take {ks : List Int} (h : hasB ks = false) (c : Nat) : hasB (ks.take c) = false := by
  unfold hasB at *
  rw [List.any_eq_false] at *
  exact fun x hx => h x (List.mem_of_mem_take hx)
theorem paraF_take {zs : List Int} {b : Int} (h : paraF zs b = 0) (c : Nat) : paraF (zs.take c) b = 0 := by
  obtain ⟨h1, h2, h3, h4⟩ := paraF_zero h
  have z := textF_zero h1
  have Z2 := List.all_eq_true.1 z.2
  have t : textF (zs.take c) = 0 := textF_ok (by rw [List.length_take]; omega) (by
    rw [List.all_eq_true] at *
    exact fun x hx => Z2 x (List.mem_of_mem_take hx))
  rw [paraF_in t ⟨h2, h3⟩, classesN_take, hasB_take h4 c]; rfl
/-- nothing hangs on what comes later -/
theorem part_same {zs : List Int} {b : Int} (h : paraF zs b = 0) (hn : NoOwn (classesN zs)) (c : Nat) (hc : c ≤ zs.length) :
    explL (zs.take c) b = (explL zs b).take c ∧ explC (zs.take c) b = (explC zs b).take c := by
  have p := paraF_take h c
  have kl := classesN_len zs
  have tl : (classesN (zs.take c)).length = c := by rw [classesN_len, List.length_take]; omega
  unfold explL explC
  rw [if_pos h, if_pos p, if_pos h, if_pos p]
  unfold levN clsN
  rw [tl, classesN_take, eat_cut _ b c (by omega) hn c (Nat.le_refl _)]
  have := eat_take (classesN zs) b c (classesN zs).length (by omega)
  exact ⟨this.1.symm, this.2.symm⟩
end Go.Proofs.YtcfnhjpmihngdaaGreat
