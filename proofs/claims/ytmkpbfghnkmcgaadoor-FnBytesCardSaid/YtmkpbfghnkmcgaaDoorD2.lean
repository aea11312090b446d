/- The draws of chapter 1: bytes, a carry. -/
import Derived.Test.YtmkpbfghnkmcgaaDoorD1
namespace Go.Proofs.YtmkpbfghnkmcgaaDoor
open Go.RowKit

def someD (zs : List Int) (at_ : Int) (n : Nat) : List Int := (List.range n).map fun (i : Nat) => nxt zs (at_ + (i : Int)) 256
theorem someD_len (zs : List Int) (at_ : Int) (n : Nat) : (someD zs at_ n).length = n := by simp [someD]
theorem someD_byte (zs : List Int) (at_ : Int) (n : Nat) : ∀ b ∈ someD zs at_ n, isByte b := by
  intro b hb
  simp only [someD, List.mem_map] at hb
  obtain ⟨i, _, rfl⟩ := hb
  have := nxt_range zs (at_ + (i : Int)) 256 (by omega)
  unfold isByte
  omega
theorem someD_step (zs : List Int) (at_ : Int) (k : Nat) : someD zs at_ (k + 1) = someD zs at_ k ++ [nxt zs (at_ + (k : Int)) 256] := by simp [someD, List.range_succ]

set_option maxRecDepth 100000 in
set_option maxHeartbeats 400000 in
theorem l1Some_any (g : Nat) (zs : List Int) (at_ : Int) (n : Nat) (w : World) (hs : Src w g zs at_) (hb : ∀ b ∈ zs, isByte b) (hl : zs.length < 2000000) (ha : 0 ≤ at_ ∧ at_ + n ≤ 1000000) :
    Calls Tryd.prog 36 #[.pointer (some ⟨g, 0, none⟩), .int .i64 n] w fun e w' => (∃ v, e = .returned v ∧ Own w' w.heap.size w'.heap.size 5 .u8 v (someD zs at_ n)) ∧ Src w' g zs (at_ + n) ∧ Out g (g + 1) w w' := by
  obtain ⟨i0, hi, hz0, hz1, hz2⟩ := info_parts info_uint8
  have HB := Lib.hid hb
  have HS := Lib.hid hs
  have gl := hs.lt
  clear hs hb
  go_enter Tryd.func36, Tryd.ntmps36
  go_wp2
  go_loopw [1, 5] (fun nv v wr => ∃ k : Nat, k ≤ n ∧ nv = .int .i64 ((n : Int) - k) ∧ Hid (wr.ownsRow w.heap.size 5 1 v k (nums .u8 (someD zs at_ k))) ∧ Hid (Src wr g zs (at_ + (k : Int))) ∧ Out g (g + 1) w wr) (fun nv _ _ => (intOf nv).toNat)
  case atStart => exact ⟨0, by omega, by simp, Lib.hid (by simpa [someD, nums] using own_new w 5 #[] 0 rfl (by omega)), Lib.hid (by simpa using HS.out.alloc _), (Out.refl _ _ _).alloc _⟩
  case round =>
    obtain ⟨k, hk, rfl, ho, hsr, hou⟩ := hrel
    have sz := hou.size
    by_cases hlt : k < n
    · have c0 : (0 : Int) < (n : Int) - k := by omega
      obtain ⟨x, hx⟩ : ∃ x, Hid (x = nxt zs (at_ + (k : Int)) 256) := ⟨_, Lib.hid rfl⟩
      have xr := nxt_range zs (at_ + (k : Int)) 256 (by omega)
      rw [← hx.out] at xr
      have wx : IntKind.u8.wrap x = x := IntWalk.u8_in _ (by omega)
      obtain ⟨A1, c1, rfl⟩ := own_form ho.out
      go_wp2_with fail
      refine (next_src g zs _ 256 wr hsr.out HB.out hl (by omega) (by omega)).mono ?_
      rintro e w1 ⟨rfl, hs1, o1⟩
      rw [← hx.out]
      have S1 := Lib.hid hs1
      have r1 := Lib.hid (((Own.mk_ (kd := .u8) (zs := someD zs at_ k) ho.out (someD_len _ _ _).symm).out o1 (.inr (by omega))).1)
      rw [someD_len] at r1
      have ou1 := hou.trans o1
      have sz1 := ou1.size
      clear o1 hs1
      go_wp2_with (at_builtin; refine wpList_app rfl _ _ _ rfl w.heap.size Tryd.underlying22 hi hz0 hz1 hz2 rfl (by omega) rfl (r1.out.alloc _) rfl (Rd.lit _ #[.int .u8 x] _) (m := 1) rfl (nums_one .u8 [x]) (by omega) (by omega) (by simp; omega) ?_; intro v' w2 o2 g2 a2)
      have g3 : (w1.alloc (.cells #[.int .u8 x] 5)).grownBy w2 (Value.slice A1 k c1).ownBlock := g2
      have ro := row_out (r1.out.alloc (.cells #[.int .u8 x] 5)) g3
      clear g2 a2 g3
      go_roundw
      case rel => exact ⟨k + 1, by omega, by simp; omega, Lib.hid (by rw [someD_step, ← hx.out]; simpa [nums] using o2), Lib.hid (by have := (S1.out.alloc (.cells #[.int .u8 x] 5)).out ro gl; simpa [Int.add_assoc] using this), (ou1.alloc _).later ro (Nat.le_refl _)⟩
      case measure => first | omega | (simp [intOf]; omega)
    · obtain rfl : k = n := by omega
      have c0 : ¬ (0 : Int) < (k : Int) - k := by omega
      go_wp2
      go_ret
      exact ⟨⟨_, rfl, Own.mk_ ho.out (someD_len _ _ _).symm⟩, hsr.out, hou⟩

def pickC : List Int := [233, 1488, 8364, 128512, 55295, 57344, 1114111, 2048]
def carryP (zs : List Int) (at_ : Int) : Int := nth pickC (nxt zs at_ 8).toNat
def carryM (zs : List Int) (at_ : Int) : Nat := (nxt zs (at_ + 1) (enc1 (carryP zs at_)).length).toNat
def carryS (zs : List Int) (at_ : Int) : Bool := nxt zs (at_ + 2) 8 == 0
def carryN (zs : List Int) (at_ : Int) : Nat := (nth [1, 2, 3, 4] (nxt zs (at_ + 3) 4).toNat).toNat
def carryD (zs : List Int) (at_ : Int) : List Int := if carryS zs at_ = true then someD zs (at_ + 4) (carryN zs at_) else (enc1 (carryP zs at_)).take (carryM zs at_)
def carryE (zs : List Int) (at_ : Int) : Int := if carryS zs at_ = true then at_ + 4 + carryN zs at_ else at_ + 3
theorem carryP_chr (zs : List Int) (at_ : Int) : chrB (carryP zs at_) = true := by
  have h := nxt_range zs at_ 8 (by omega)
  exact (by decide : ∀ x ∈ pickC, chrB x = true) _ (nth_in pickC _ (by simp [pickC]; omega))
theorem enc1_byte (c : Int) (h : chrB c = true) : ∀ b ∈ enc1 c, isByte b := by
  have := chrB_range h
  unfold enc1
  intro b hb
  unfold isByte
  repeat' split at hb
  all_goals
    simp only [List.mem_cons, List.not_mem_nil, or_false] at hb
    omega
theorem carryN_le (zs : List Int) (at_ : Int) : carryN zs at_ ≤ 4 := by
  have h := nxt_range zs (at_ + 3) 4 (by omega)
  have := (by decide : ∀ x ∈ ([1, 2, 3, 4] : List Int), x ≤ 4) _ (nth_in [1, 2, 3, 4] (nxt zs (at_ + 3) 4).toNat (by simp; omega))
  unfold carryN
  omega
theorem carryN_val (zs : List Int) (at_ : Int) : nth [1, 2, 3, 4] (nxt zs (at_ + 3) 4).toNat = (carryN zs at_ : Int) := by
  have h := nxt_range zs (at_ + 3) 4 (by omega)
  have := (by decide : ∀ x ∈ ([1, 2, 3, 4] : List Int), 0 ≤ x) _ (nth_in [1, 2, 3, 4] (nxt zs (at_ + 3) 4).toNat (by simp; omega))
  unfold carryN
  omega
theorem carryD_len (zs : List Int) (at_ : Int) : (carryD zs at_).length ≤ 4 := by
  unfold carryD
  split
  · rw [someD_len]; exact carryN_le zs at_
  · have := enc1_len (carryP zs at_)
    rw [List.length_take]; omega
theorem carryD_byte (zs : List Int) (at_ : Int) : ∀ b ∈ carryD zs at_, isByte b := by
  unfold carryD
  split
  · exact someD_byte _ _ _
  · exact fun b hb => enc1_byte _ (carryP_chr zs at_) b (List.mem_of_mem_take hb)
theorem carryE_range (zs : List Int) (at_ : Int) : at_ ≤ carryE zs at_ ∧ carryE zs at_ ≤ at_ + 8 := by
  have := carryN_le zs at_
  unfold carryE
  split <;> omega

theorem Own.cut {w : World} {lo hi : Nat} {t : TypeId} {kd : IntKind} {A : Option Addr} {n c m : Nat} {zs : List Int} (h : Own w lo hi t kd (.slice A n c) zs) (hm : m ≤ n) : Own w lo hi t kd (.slice A m c) (zs.take m) := by
  obtain ⟨A', c', e⟩ := h.form
  injection e with e1 e2 e3
  subst e2
  have hl : (zs.take m).length = m := by rw [List.length_take]; omega
  unfold Own
  rw [hl]
  refine ⟨⟨by simp [nums]; omega, ?_⟩, fun g hg => h.2 g (by
    cases A with
    | none => simp [Value.ownBlock] at hg
    | some a => simpa [Value.ownBlock] using hg)⟩
  rcases h.1.2 with ⟨hv, hn⟩ | ⟨g, cap, cur, hv, hb, hg, h1, h2, h3, h4⟩
  · injection hv with i1 i2 i3
    exact .inl ⟨by rw [i1, i3, show m = 0 by omega], by omega⟩
  · injection hv with i1 i2 i3
    subst i1; subst i3
    refine .inr ⟨g, c, cur, rfl, hb, hg, by omega, h2, h3, ?_⟩
    rw [nums_take, ← h4, List.take_take, Nat.mul_one, Nat.mul_one, Nat.min_eq_left hm]
set_option maxRecDepth 100000 in
set_option maxHeartbeats 1000000 in
theorem l1Carry_any (g : Nat) (zs : List Int) (at_ : Int) (w : World) (hs : Src w g zs at_) (hb : ∀ b ∈ zs, isByte b) (hl : zs.length < 2000000) (ha : 0 ≤ at_ ∧ at_ + 10 ≤ 1000000) :
    Calls Tryd.prog 34 #[.pointer (some ⟨g, 0, none⟩)] w fun e w' => (∃ v, e = .returned v ∧ Own w' w.heap.size w'.heap.size 5 .u8 v (carryD zs at_)) ∧ Src w' g zs (carryE zs at_) ∧ Out g (g + 1) w w' := by
  have HB := Lib.hid hb
  have HS := Lib.hid hs
  have gl := hs.lt
  have pr := chrB_range (carryP_chr zs at_)
  obtain ⟨P, hP⟩ : ∃ P, Hid (P = carryP zs at_) := ⟨_, Lib.hid rfl⟩
  rw [← hP.out] at pr
  have el := enc1_len P
  have ep := enc1_pos P
  have mr := nxt_range zs (at_ + 1) (enc1 P).length (by omega)
  obtain ⟨M, hM⟩ : ∃ M : Nat, Hid (nxt zs (at_ + 1) (enc1 P).length = M) := ⟨(nxt zs (at_ + 1) (enc1 P).length).toNat, Lib.hid (by omega)⟩
  have EM : Hid (carryM zs at_ = M) := Lib.hid (by unfold carryM; rw [← hP.out, hM.out]; simp)
  rw [hM.out] at mr
  clear hs hb
  go_enter Tryd.func34, Tryd.ntmps34
  go_wp2_with fail
  refine (l1Pick_any g w.heap.size 8 2 pickC zs at_ _ (Blk.new w _ _) (by omega) rfl (by omega) (by omega) (HS.out.alloc _) HB.out hl (by omega)).mono ?_
  rintro e w1 ⟨rfl, hs1, o1⟩
  rw [show nth pickC (nxt zs at_ ((8 : Nat) : Int)).toNat = P from hP.out.symm]
  have S1 := Lib.hid hs1
  have z1 := o1.size
  have a1 : Out g (g + 1) w w1 := ((Out.refl _ _ w).alloc _).trans o1
  clear hs1 o1
  rw [World.size_alloc] at z1
  go_wp2_with fail
  refine (l1Char_any P w1 pr.1 pr.2).mono ?_
  rintro e w2 ⟨⟨A2, c2, rfl, o2⟩, b2⟩
  have S2 := Lib.hid (S1.out.below b2)
  have cp := own_cap o2
  have r2 := Lib.hid (Own.mk_ (kd := .u8) o2 rfl)
  have z2 := b2.size
  have a2 := a1.trans (Out.of_below (lo := g) (hi := g + 1) b2)
  clear o2 b2
  unfold maxLen at cp
  go_wp2_with fail
  refine (next_src g zs _ (enc1 P).length w2 S2.out HB.out hl (by omega) (by omega)).mono ?_
  rintro e w3 ⟨rfl, hs3, o3⟩
  rw [hM.out]
  have S3 := Lib.hid hs3
  have z3 := o3.size
  have r3 := Lib.hid (r2.out.out o3 (.inr (by omega)))
  have a3 := a2.trans o3
  have i1 : (M : Int) ≤ (enc1 P).length := by omega
  clear o3 hs3
  go_wp2_with fail
  refine (l1Chance_any g zs _ 8 w3 S3.out HB.out hl (by omega) (by omega)).mono ?_
  rintro e w4 ⟨rfl, hs4, o4⟩
  have e2 : at_ + 1 + 1 = at_ + 2 := by omega
  rw [e2] at hs4 ⊢
  have S4 := Lib.hid hs4
  have z4 := o4.size
  have a4 := a3.trans o4
  have se4 := Lib.hid (((r3.out.out o4 (.inr (by omega))).cut (m := M) (by omega)).more (by omega : w.heap.size ≤ w1.heap.size) (by omega : w2.heap.size ≤ w4.heap.size))
  clear hs4 o4
  cases hS : (nxt zs (at_ + 2) 8 == 0)
  · have ES : Hid (carryS zs at_ = false) := Lib.hid hS
    have ED : Hid (carryD zs at_ = (enc1 P).take M ∧ carryE zs at_ = at_ + 2 + 1) := Lib.hid (by unfold carryD carryE; rw [ES.out, EM.out, ← hP.out]; exact ⟨rfl, by simp; omega⟩)
    go_wp2
    go_ret
    rw [ED.out.1, ED.out.2]
    exact ⟨⟨_, rfl, se4.out⟩, S4.out, a4⟩
  · have ES : Hid (carryS zs at_ = true) := Lib.hid hS
    have Nl := carryN_le zs at_
    have Nv := carryN_val zs at_
    obtain ⟨N, hN⟩ : ∃ N, Hid (N = carryN zs at_) := ⟨_, Lib.hid rfl⟩
    rw [← hN.out] at Nl Nv
    have ED : Hid (carryD zs at_ = someD zs (at_ + 2 + 1 + 1) N ∧ carryE zs at_ = at_ + 2 + 1 + 1 + N) := Lib.hid (by unfold carryD carryE; rw [ES.out, ← hN.out]; exact ⟨by simp [Int.add_assoc], by simp; omega⟩)
    have NV := Lib.hid Nv
    clear Nv se4
    go_wp2_with fail
    refine (l1Pick_any g w4.heap.size 4 2 [1, 2, 3, 4] zs _ _ (Blk.new w4 _ _) (by omega) rfl (by omega) (by omega) (S4.out.alloc _) HB.out hl (by omega)).mono ?_
    rintro e w5 ⟨rfl, hs5, o5⟩
    rw [show at_ + 2 + 1 = at_ + 3 by omega, show nth [1, 2, 3, 4] (nxt zs (at_ + 3) ((4 : Nat) : Int)).toNat = (N : Int) from NV.out]
    have S5 := Lib.hid hs5
    have z5 := o5.size
    rw [World.size_alloc] at z5
    have a5 : Out g (g + 1) w w5 := (a4.alloc _).trans o5
    clear hs5 o5
    go_wp2_with fail
    refine (l1Some_any g zs _ N w5 S5.out HB.out hl (by omega)).mono ?_
    rintro e w6 ⟨⟨v, rfl, o6⟩, hs6, q6⟩
    have a6 := a5.trans q6
    have z6 := q6.size
    have S6 := Lib.hid hs6
    have O6 := Lib.hid o6
    clear hs6 o6 q6
    obtain ⟨A7, c7, rfl⟩ := O6.out.form
    go_wp2
    go_ret
    rw [ED.out.1, ED.out.2]
    exact ⟨⟨_, rfl, O6.out.more (by omega) (Nat.le_refl _)⟩, S6.out, a6⟩

end Go.Proofs.YtmkpbfghnkmcgaaDoor
