/- FnBytes: the walk (laid by wip/bin/genfb.py). -/
import Derived.Test.YtmkpbfghnkmcgaaDoorF1
import Derived.Test.YtmkpbfghnkmcgaaDoorF3
import Derived.Deep.RegionHeld3
namespace Go.Proofs.YtmkpbfghnkmcgaaDoor.fnBytes
open Go.RowKit

attribute [local go_sem] Oper.semAt_some
theorem field_b0 (y : Value) (n : Int) (w : World) : (Instr.field 27 (.agg #[.int .i64 n, y]) 0).run Tryd.prog w = .ok (.int .i64 n) w := by simp [Instr.field, go_sem, asAgg]
theorem field_i0 (y : Value) (n : Int) (w : World) : (Instr.field 36 (.agg #[.int .i64 n, y]) 0).run Tryd.prog w = .ok (.int .i64 n) w := by simp [Instr.field, go_sem, asAgg]
theorem field_i1 (x : Value) (A : Option Addr) (n c : Nat) (w : World) : (Instr.field 36 (.agg #[x, .slice A n c]) 1).run Tryd.prog w = .ok (.slice A n c) w := by simp [Instr.field, go_sem, asAgg]
theorem field_d0 (x y : Value) (n : Int) (w : World) : (Instr.field 32 (.agg #[.int .i64 n, x, y]) 0).run Tryd.prog w = .ok (.int .i64 n) w := by simp [Instr.field, go_sem, asAgg]
attribute [local go_sem] field_b0 field_i0 field_i1 field_d0
theorem field_d1 (x y : Value) (A : Option Addr) (n c : Nat) (w : World) : (Instr.field 32 (.agg #[x, .slice A n c, y]) 1).run Tryd.prog w = .ok (.slice A n c) w := by simp [Instr.field, go_sem, asAgg]
attribute [local go_sem] field_d1
theorem below_any {w w' : World} (h : Below w.heap.size w w') : Below w.heap.size w w' := h
theorem lwNums_see (A A' : Option Addr) (n n' c c' : Nat) {xs ys : List Int} {w w0 w1 : World} {B B' : Nat} (h1 : Sees w0 B .i64 (.slice A n c) xs) (h2 : Sees w1 B' .i64 (.slice A' n' c') ys) (l1 : xs.length < 1000000000) (l2 : ys.length < 1000000000) (e0 : w0.heap = w.heap := by rfl) (e1 : w1.heap = w.heap := by rfl) :
    Calls Tryd.prog 18 #[.slice A n c, .slice A' n' c'] w fun e w' => e = .returned (.bool (decide (xs = ys))) ∧ ∃ n, w' = w.drewN n := by
  obtain ⟨_, _, e, r⟩ := h1
  obtain ⟨_, _, e', r'⟩ := h2
  injection e with e1 e2 e3
  injection e' with e1' e2' e3'
  subst e1; subst e2; subst e3; subst e1'; subst e2'; subst e3'
  exact lwNums_any _ _ xs ys _ _ w B B' (r.keep fun p _ => by unfold World.cell?; rw [e0]) (r'.keep fun p _ => by unfold World.cell?; rw [e1]) l1 l2
theorem specSameTexts_see (A A' : Option Addr) (n n' c c' : Nat) {xs ys : List Int} {w w0 w1 : World} {B B' : Nat} (h1 : Sees w0 B .i64 (.slice A n c) xs) (h2 : Sees w1 B' .i64 (.slice A' n' c') ys) (l1 : xs.length < 1000000000) (l2 : ys.length < 1000000000) (e0 : w0.heap = w.heap := by rfl) (e1 : w1.heap = w.heap := by rfl) :
    Calls Tryd.prog 23 #[.slice A n c, .slice A' n' c'] w fun e w' => e = .returned (.bool (decide (xs = ys))) ∧ ∃ n, w' = w.drewN n := by
  obtain ⟨_, _, e, r⟩ := h1
  obtain ⟨_, _, e', r'⟩ := h2
  injection e with e1 e2 e3
  injection e' with e1' e2' e3'
  subst e1; subst e2; subst e3; subst e1'; subst e2'; subst e3'
  exact specSameTexts_any _ _ xs ys _ _ w B B' (r.keep fun p _ => by unfold World.cell?; rw [e0]) (r'.keep fun p _ => by unfold World.cell?; rw [e1]) l1 l2
set_option maxRecDepth 100000 in
set_option maxHeartbeats 400000 in
theorem implSameTexts_see (A A' : Option Addr) (n n' c c' : Nat) {xs ys : List Int} {w w0 w1 : World} {B B' : Nat} (h1 : Sees w0 B .i64 (.slice A n c) xs) (h2 : Sees w1 B' .i64 (.slice A' n' c') ys) (l1 : xs.length < 1000000000) (l2 : ys.length < 1000000000) (e0 : w0.heap = w.heap := by rfl) (e1 : w1.heap = w.heap := by rfl) :
    Calls Tryd.prog 22 #[.slice A n c, .slice A' n' c'] w fun e w' => e = .returned (.bool (decide (xs = ys))) ∧ ∃ n, w' = w.drewN n := by
  obtain ⟨_, _, e, r⟩ := h1
  obtain ⟨_, _, e', r'⟩ := h2
  injection e with e1 e2 e3
  injection e' with e1' e2' e3'
  subst e1; subst e2; subst e3; subst e1'; subst e2'; subst e3'
  have q1 : Rd w B _ (nums .i64 xs) := r.keep fun p _ => by unfold World.cell?; rw [e0]
  have q2 : Rd w B' _ (nums .i64 ys) := r'.keep fun p _ => by unfold World.cell?; rw [e1]
  go_enter Tryd.func22, Tryd.ntmps22
  go_wp2_with (go_at_call 48; refine (slicesEqualInt_any _ _ _ _ _ _ _ _ _ q1 q2 l1 l2).mono ?_; rintro e w' ⟨rfl, n, rfl⟩)
  go_ret
  exact ⟨rfl, n, rfl⟩

theorem allL_chr (bs : List Int) (hb : ∀ b ∈ bs, isByte b) : ∀ c ∈ allL bs, chrB c = true := by
  unfold allL allT
  intro c hc
  split at hc
  · simp at hc
  · rcases List.mem_append.1 hc with h | h
    · exact decode_chars bs (fun b h => (hb b h).1) c h
    · split at h
      · simp at h
      · rw [List.mem_singleton.1 h]; decide

theorem wf_bytes {bs : List Int} (h : ∀ b ∈ bs, isByte b) : ∀ n ∈ bs, (Lit.int .u8 n).wf = true := by
  intro n hn
  have := h n hn
  unfold isByte at this
  have h1 : IntKind.u8.min = 0 := rfl
  have h2 : IntKind.u8.max = 255 := rfl
  simp only [Lit.wf, Bool.and_eq_true, decide_eq_true_eq, h1, h2]
  exact this
theorem wf_text {ts : List Int} (h : ∀ t ∈ ts, -1 ≤ t ∧ t ≤ 1114112) : ∀ n ∈ ts, (Lit.int .i64 n).wf = true := by
  intro n hn
  have := h n hn
  have h1 : IntKind.i64.min = -9223372036854775808 := rfl
  have h2 : IntKind.i64.max = 9223372036854775807 := rfl
  simp only [Lit.wf, Bool.and_eq_true, decide_eq_true_eq, h1, h2]
  omega

set_option maxRecDepth 100000 in
set_option maxHeartbeats 100000000 in
theorem walk {w : World} (hT : Tabs w) (A : Option Addr) (zs : List Int) (c : Nat) (r : Rd w w.heap.size A (nums .u8 zs)) (hw : ∀ n ∈ zs, (Lit.int .u8 n).wf = true) :
    Calls Tryd.prog 3 #[.slice A zs.length c] w fun e w' => e = .returned (.bool true) ∧ Below w.heap.size w w' := by
  by_cases hl : 1048576 < zs.length
  · have d0 : decide (1048576 < zs.length) = true := by simp [hl]
    go_enter Tryd.func3, Tryd.ntmps3
    go_wp2_with fail
    refine (lwBig_any A zs.length c w).mono ?_
    rintro e w1 ⟨rfl, rfl⟩
    rw [d0]
    go_wp2
    go_ret
    exact ⟨rfl, Below.refl _ _⟩
  · have d0 : decide (1048576 < zs.length) = false := by simp [hl]
    have HB := Lib.hid (bytes_of hw)
    have zl : zs.length < 2000000 := by omega
    have R := r
    have T := hT
    clear hl r hT hw
    go_enter Tryd.func3, Tryd.ntmps3
    go_wp2_with fail
    refine (lwBig_any A zs.length c w).mono ?_
    rintro e w1 ⟨rfl, rfl⟩
    rw [d0]
    have HBW := Below.refl w.heap.size w
    go_wp2_with fail
    refine (drawEncodeText_any A c zs w R HB.out zl).mono ?_
    rintro e w1 ⟨⟨v, rfl, ts, o, lt, ht⟩, b1⟩
    replace R := R.on b1
    replace T := T.on b1
    replace HBW := below_on HBW b1 (Nat.le_refl _)
    clear b1
    obtain ⟨A1, c1, rfl⟩ := o.form
    have sT := o.sees
    clear o
    have WT := Lib.hid (wf_text ht)
    go_wp2_with fail
    refine (encodeText_val _ ts w1 w1.heap.size sT (Nat.le_refl _) (by omega) WT.out).mono ?_
    rintro e w2 ⟨⟨u, rfl, o⟩, b2⟩
    replace R := R.on b2
    replace T := T.on b2
    replace sT := (sT.below b2 (Nat.le_refl _)).more b2.size
    replace HBW := below_on HBW b2 (Nat.le_refl _)
    clear b2
    obtain ⟨A2, c2, rfl⟩ := o.form
    have sE := o.sees
    have cE := Lib.hid o.caps
    clear o
    have b3 := (Below.refl w2.heap.size w2).alloc (Nat.le_refl _) (.cells #[.int .i64 (encode ts).1, .slice A2 (encode ts).2.length c2] 27)
    have kE := Blk.new w2 27 #[.int .i64 (encode ts).1, .slice A2 (encode ts).2.length c2]
    replace R := R.on b3
    replace T := T.on b3
    replace sT := (sT.below b3 (Nat.le_refl _)).more b3.size
    replace sE := (sE.below b3 (Nat.le_refl _)).more b3.size
    replace HBW := below_on HBW b3 (Nat.le_refl _)
    clear b3
    go_wp2_with fail
    generalize hg3 : w2.alloc (.cells #[.int .i64 (encode ts).1, .slice A2 (encode ts).2.length c2] 27) = w3 at *
    clear hg3
    refine (drawDecodeChunk_any A c zs w3 R HB.out zl).mono ?_
    rintro e w4 ⟨⟨v1, v2, rfl, s1, ds, o, ld, hd⟩, b4⟩
    replace R := R.on b4
    replace T := T.on b4
    replace sT := (sT.below b4 (Nat.le_refl _)).more b4.size
    replace sE := (sE.below b4 (Nat.le_refl _)).more b4.size
    replace kE := kE.below b4 kE.lt
    replace HBW := below_on HBW b4 (Nat.le_refl _)
    clear b4
    obtain ⟨cs, hcs⟩ : ∃ cs, Hid (cs = carryD zs 0) := ⟨_, Lib.hid rfl⟩
    have lc := carryD_len zs 0
    have WC := Lib.hid (wf_bytes (carryD_byte zs 0))
    rw [← hcs.out] at s1 lc WC
    obtain ⟨A3, c3, rfl, _⟩ := id s1
    obtain ⟨A4, c4, rfl⟩ := o.form
    have sC := s1
    have sD := o.sees
    have cD := o.caps A4 _ c4 rfl
    have WD := Lib.hid (wf_bytes hd)
    clear o s1
    go_wp2_with fail
    refine (decodeChunk_val _ cs _ ds w4 T w4.heap.size sC (Nat.le_refl _) (by omega) WC.out w4.heap.size sD (Nat.le_refl _) (by omega) WD.out).mono ?_
    rintro e w5 ⟨⟨u1, u2, rfl, o1, o2, _⟩, b5⟩
    replace R := R.on b5
    replace T := T.on b5
    replace sT := (sT.below b5 (Nat.le_refl _)).more b5.size
    replace sE := (sE.below b5 (Nat.le_refl _)).more b5.size
    replace kE := kE.below b5 kE.lt
    replace sC := (sC.below b5 (Nat.le_refl _)).more b5.size
    replace sD := (sD.below b5 (Nat.le_refl _)).more b5.size
    replace HBW := below_on HBW b5 (Nat.le_refl _)
    clear b5
    obtain ⟨A5, c5, rfl⟩ := o1.form
    obtain ⟨A6, c6, rfl⟩ := o2.form
    have sX := o1.sees
    have sY := o2.sees
    clear o1 o2
    have b6 := (Below.refl w5.heap.size w5).alloc (Nat.le_refl _) (.cells #[.int .i64 (chunkC cs ds), .slice A5 (chunkT cs ds).length c5, .slice A6 (chunkR cs ds).length c6] 32)
    have kD := Blk.new w5 32 #[.int .i64 (chunkC cs ds), .slice A5 (chunkT cs ds).length c5, .slice A6 (chunkR cs ds).length c6]
    replace R := R.on b6
    replace T := T.on b6
    replace sT := (sT.below b6 (Nat.le_refl _)).more b6.size
    replace sE := (sE.below b6 (Nat.le_refl _)).more b6.size
    replace kE := kE.below b6 kE.lt
    replace sC := (sC.below b6 (Nat.le_refl _)).more b6.size
    replace sD := (sD.below b6 (Nat.le_refl _)).more b6.size
    replace sX := (sX.below b6 (Nat.le_refl _)).more b6.size
    replace sY := (sY.below b6 (Nat.le_refl _)).more b6.size
    replace HBW := below_on HBW b6 (Nat.le_refl _)
    clear b6
    go_wp2_with fail
    generalize hg6 : w5.alloc (.cells #[.int .i64 (chunkC cs ds), .slice A5 (chunkT cs ds).length c5, .slice A6 (chunkR cs ds).length c6] 32) = w6 at *
    clear hg6
    refine (drawDecodeAll_any A c zs w6 R HB.out zl).mono ?_
    rintro e w7 ⟨⟨v, rfl, bs, o, lb, hb⟩, b7⟩
    replace R := R.on b7
    replace T := T.on b7
    replace sT := (sT.below b7 (Nat.le_refl _)).more b7.size
    replace sE := (sE.below b7 (Nat.le_refl _)).more b7.size
    replace kE := kE.below b7 kE.lt
    replace sC := (sC.below b7 (Nat.le_refl _)).more b7.size
    replace sD := (sD.below b7 (Nat.le_refl _)).more b7.size
    replace sX := (sX.below b7 (Nat.le_refl _)).more b7.size
    replace sY := (sY.below b7 (Nat.le_refl _)).more b7.size
    replace kD := kD.below b7 kD.lt
    replace HBW := below_on HBW b7 (Nat.le_refl _)
    clear b7
    obtain ⟨A7, c7, rfl⟩ := o.form
    have sB := o.sees
    have cB := Lib.hid o.caps
    have WB := Lib.hid (wf_bytes hb)
    have LC := Lib.hid (allL_chr bs hb)
    clear o
    go_wp2_with fail
    refine (decodeAll_val _ bs w7 T w7.heap.size sB (Nat.le_refl _) (by omega) WB.out cB.out).mono ?_
    rintro e w8 ⟨⟨u, rfl, o⟩, b8⟩
    replace R := R.on b8
    replace T := T.on b8
    replace sT := (sT.below b8 (Nat.le_refl _)).more b8.size
    replace sE := (sE.below b8 (Nat.le_refl _)).more b8.size
    replace kE := kE.below b8 kE.lt
    replace sC := (sC.below b8 (Nat.le_refl _)).more b8.size
    replace sD := (sD.below b8 (Nat.le_refl _)).more b8.size
    replace sX := (sX.below b8 (Nat.le_refl _)).more b8.size
    replace sY := (sY.below b8 (Nat.le_refl _)).more b8.size
    replace kD := kD.below b8 kD.lt
    replace sB := (sB.below b8 (Nat.le_refl _)).more b8.size
    replace HBW := below_on HBW b8 (Nat.le_refl _)
    clear b8
    obtain ⟨A8, c8, rfl⟩ := o.form
    have sA := o.sees
    clear o
    have b9 := (Below.refl w8.heap.size w8).alloc (Nat.le_refl _) (.cells #[.int .i64 (allC bs), .slice A8 (allL bs).length c8] 36)
    have kA := Blk.new w8 36 #[.int .i64 (allC bs), .slice A8 (allL bs).length c8]
    replace R := R.on b9
    replace T := T.on b9
    replace sT := (sT.below b9 (Nat.le_refl _)).more b9.size
    replace sE := (sE.below b9 (Nat.le_refl _)).more b9.size
    replace kE := kE.below b9 kE.lt
    replace sC := (sC.below b9 (Nat.le_refl _)).more b9.size
    replace sD := (sD.below b9 (Nat.le_refl _)).more b9.size
    replace sX := (sX.below b9 (Nat.le_refl _)).more b9.size
    replace sY := (sY.below b9 (Nat.le_refl _)).more b9.size
    replace kD := kD.below b9 kD.lt
    replace sB := (sB.below b9 (Nat.le_refl _)).more b9.size
    replace sA := (sA.below b9 (Nat.le_refl _)).more b9.size
    replace HBW := below_on HBW b9 (Nat.le_refl _)
    clear b9
    go_wp2_with fail
    generalize hg9 : w8.alloc (.cells #[.int .i64 (allC bs), .slice A8 (allL bs).length c8] 36) = w9 at *
    clear hg9
    refine (drawIsChar_any A c zs w9 R HB.out zl).mono ?_
    rintro e w10 ⟨⟨x, rfl, x0, x1⟩, b10⟩
    replace R := R.on b10
    replace T := T.on b10
    replace sT := (sT.below b10 (Nat.le_refl _)).more b10.size
    replace sE := (sE.below b10 (Nat.le_refl _)).more b10.size
    replace kE := kE.below b10 kE.lt
    replace sC := (sC.below b10 (Nat.le_refl _)).more b10.size
    replace sD := (sD.below b10 (Nat.le_refl _)).more b10.size
    replace sX := (sX.below b10 (Nat.le_refl _)).more b10.size
    replace sY := (sY.below b10 (Nat.le_refl _)).more b10.size
    replace kD := kD.below b10 kD.lt
    replace sB := (sB.below b10 (Nat.le_refl _)).more b10.size
    replace sA := (sA.below b10 (Nat.le_refl _)).more b10.size
    replace kA := kA.below b10 kA.lt
    replace HBW := below_on HBW b10 (Nat.le_refl _)
    clear b10
    go_wp2_with fail
    refine (drawFlushCarry_any A c zs w10 R HB.out zl).mono ?_
    rintro e w11 ⟨⟨v, rfl, s1⟩, b11⟩
    replace R := R.on b11
    replace T := T.on b11
    replace sT := (sT.below b11 (Nat.le_refl _)).more b11.size
    replace sE := (sE.below b11 (Nat.le_refl _)).more b11.size
    replace kE := kE.below b11 kE.lt
    replace sC := (sC.below b11 (Nat.le_refl _)).more b11.size
    replace sD := (sD.below b11 (Nat.le_refl _)).more b11.size
    replace sX := (sX.below b11 (Nat.le_refl _)).more b11.size
    replace sY := (sY.below b11 (Nat.le_refl _)).more b11.size
    replace kD := kD.below b11 kD.lt
    replace sB := (sB.below b11 (Nat.le_refl _)).more b11.size
    replace sA := (sA.below b11 (Nat.le_refl _)).more b11.size
    replace kA := kA.below b11 kA.lt
    replace HBW := below_on HBW b11 (Nat.le_refl _)
    clear b11
    rw [← hcs.out] at s1
    obtain ⟨A9, c9, rfl, _⟩ := id s1
    have sF := s1
    clear s1
    go_wp2_with fail
    refine (flushCarry_val _ cs w11 T w11.heap.size sF (Nat.le_refl _) (by omega) WC.out).mono ?_
    rintro e w12 ⟨⟨u1, u2, rfl, o1, o2, _⟩, b12⟩
    replace R := R.on b12
    replace T := T.on b12
    replace sT := (sT.below b12 (Nat.le_refl _)).more b12.size
    replace sE := (sE.below b12 (Nat.le_refl _)).more b12.size
    replace kE := kE.below b12 kE.lt
    replace sC := (sC.below b12 (Nat.le_refl _)).more b12.size
    replace sD := (sD.below b12 (Nat.le_refl _)).more b12.size
    replace sX := (sX.below b12 (Nat.le_refl _)).more b12.size
    replace sY := (sY.below b12 (Nat.le_refl _)).more b12.size
    replace kD := kD.below b12 kD.lt
    replace sB := (sB.below b12 (Nat.le_refl _)).more b12.size
    replace sA := (sA.below b12 (Nat.le_refl _)).more b12.size
    replace kA := kA.below b12 kA.lt
    replace sF := (sF.below b12 (Nat.le_refl _)).more b12.size
    replace HBW := below_on HBW b12 (Nat.le_refl _)
    clear b12
    obtain ⟨A10, c10, rfl⟩ := o1.form
    obtain ⟨A11, c11, rfl⟩ := o2.form
    clear o1 o2
    have b13 := (Below.refl w12.heap.size w12).alloc (Nat.le_refl _) (.cells #[.int .i64 (carryF cs), .slice A10 (flushT cs).length c10, .slice A11 (noneOf cs).length c11] 32)
    have kF := Blk.new w12 32 #[.int .i64 (carryF cs), .slice A10 (flushT cs).length c10, .slice A11 (noneOf cs).length c11]
    replace R := R.on b13
    replace T := T.on b13
    replace sT := (sT.below b13 (Nat.le_refl _)).more b13.size
    replace sE := (sE.below b13 (Nat.le_refl _)).more b13.size
    replace kE := kE.below b13 kE.lt
    replace sC := (sC.below b13 (Nat.le_refl _)).more b13.size
    replace sD := (sD.below b13 (Nat.le_refl _)).more b13.size
    replace sX := (sX.below b13 (Nat.le_refl _)).more b13.size
    replace sY := (sY.below b13 (Nat.le_refl _)).more b13.size
    replace kD := kD.below b13 kD.lt
    replace sB := (sB.below b13 (Nat.le_refl _)).more b13.size
    replace sA := (sA.below b13 (Nat.le_refl _)).more b13.size
    replace kA := kA.below b13 kA.lt
    replace sF := (sF.below b13 (Nat.le_refl _)).more b13.size
    replace HBW := below_on HBW b13 (Nat.le_refl _)
    clear b13
    go_wp2_with fail
    generalize hg13 : w12.alloc (.cells #[.int .i64 (carryF cs), .slice A10 (flushT cs).length c10, .slice A11 (noneOf cs).length c11] 32) = w13 at *
    clear hg13
    refine (drawSameTexts_any A c zs w13 R HB.out zl).mono ?_
    rintro e w14 ⟨⟨v1, v2, rfl, xs, ys, o1, o2, lx, ly⟩, b14⟩
    replace R := R.on b14
    replace T := T.on b14
    replace sT := (sT.below b14 (Nat.le_refl _)).more b14.size
    replace sE := (sE.below b14 (Nat.le_refl _)).more b14.size
    replace kE := kE.below b14 kE.lt
    replace sC := (sC.below b14 (Nat.le_refl _)).more b14.size
    replace sD := (sD.below b14 (Nat.le_refl _)).more b14.size
    replace sX := (sX.below b14 (Nat.le_refl _)).more b14.size
    replace sY := (sY.below b14 (Nat.le_refl _)).more b14.size
    replace kD := kD.below b14 kD.lt
    replace sB := (sB.below b14 (Nat.le_refl _)).more b14.size
    replace sA := (sA.below b14 (Nat.le_refl _)).more b14.size
    replace kA := kA.below b14 kA.lt
    replace sF := (sF.below b14 (Nat.le_refl _)).more b14.size
    replace kF := kF.below b14 kF.lt
    replace HBW := below_on HBW b14 (Nat.le_refl _)
    clear b14
    obtain ⟨A12, c12, rfl⟩ := o1.form
    obtain ⟨A13, c13, rfl⟩ := o2.form
    have s1 := o1.sees
    have s2 := o2.sees
    clear o1 o2
    go_wp2_with fail
    clear ht hd hb
    have la := allL_len bs
    have bz : Below w14.heap.size w14 w14.drew := ⟨rfl, rfl, rfl, Nat.le_refl _, fun _ _ => rfl⟩
    replace R := R.on bz
    replace T := T.on bz
    replace sT := (sT.below bz (Nat.le_refl _)).more bz.size
    replace sE := (sE.below bz (Nat.le_refl _)).more bz.size
    replace kE := kE.below bz kE.lt
    replace sC := (sC.below bz (Nat.le_refl _)).more bz.size
    replace sD := (sD.below bz (Nat.le_refl _)).more bz.size
    replace sX := (sX.below bz (Nat.le_refl _)).more bz.size
    replace sY := (sY.below bz (Nat.le_refl _)).more bz.size
    replace kD := kD.below bz kD.lt
    replace sB := (sB.below bz (Nat.le_refl _)).more bz.size
    replace sA := (sA.below bz (Nat.le_refl _)).more bz.size
    replace kA := kA.below bz kA.lt
    replace sF := (sF.below bz (Nat.le_refl _)).more bz.size
    replace kF := kF.below bz kF.lt
    replace s1 := (s1.below bz (Nat.le_refl _)).more bz.size
    replace s2 := (s2.below bz (Nat.le_refl _)).more bz.size
    replace HBW := below_on HBW bz (Nat.le_refl _)
    clear bz
    go_region_held3 (fun w' => w'.cell? ⟨w2.heap.size, 0, none⟩ = some (.int .i64 (encode ts).1) ∧ w'.cell? ⟨w5.heap.size, 0, none⟩ = some (.int .i64 (chunkC cs ds)) ∧ w'.cell? ⟨w8.heap.size, 0, none⟩ = some (.int .i64 (allC bs)) ∧ w'.cell? ⟨w8.heap.size, 1, none⟩ = some (.slice A8 (allL bs).length c8) ∧ w'.cell? ⟨w12.heap.size, 0, none⟩ = some (.int .i64 (carryF cs))) (exact ⟨kE.cell 0 rfl, kD.cell 0 rfl, kA.cell 0 rfl, kA.cell 1 rfl, kF.cell 0 rfl⟩) (first
      | (go_at_call 15; refine (specEncodeText_val _ ts _ _ sT (Nat.le_refl _) (by omega) WT.out).mono ?_; rintro e w101 ⟨⟨y1, rfl, z1⟩, b101⟩; have qb101 : Below w14.drew.heap.size w14.drew w101 := ⟨b101.os, b101.tape, b101.output, b101.size, b101.block⟩; replace R := R.on qb101; replace T := T.on qb101; replace sT := (sT.below qb101 (Nat.le_refl _)).more qb101.size; replace sE := (sE.below qb101 (Nat.le_refl _)).more qb101.size; replace kE := kE.below qb101 kE.lt; replace sC := (sC.below qb101 (Nat.le_refl _)).more qb101.size; replace sD := (sD.below qb101 (Nat.le_refl _)).more qb101.size; replace sX := (sX.below qb101 (Nat.le_refl _)).more qb101.size; replace sY := (sY.below qb101 (Nat.le_refl _)).more qb101.size; replace kD := kD.below qb101 kD.lt; replace sB := (sB.below qb101 (Nat.le_refl _)).more qb101.size; replace sA := (sA.below qb101 (Nat.le_refl _)).more qb101.size; replace kA := kA.below qb101 kA.lt; replace sF := (sF.below qb101 (Nat.le_refl _)).more qb101.size; replace kF := kF.below qb101 kF.lt; replace s1 := (s1.below qb101 (Nat.le_refl _)).more qb101.size; replace s2 := (s2.below qb101 (Nat.le_refl _)).more qb101.size; replace HBW := below_on HBW qb101 (Nat.le_refl _); clear b101 qb101; obtain ⟨B1, e1, rfl⟩ := z1.form; clear z1)
      | (go_at_call 16; refine (specDecodeChunk_val _ cs _ ds _ T _ sC (Nat.le_refl _) (by omega) WC.out _ sD (Nat.le_refl _) (by omega) WD.out).mono ?_; rintro e w102 ⟨⟨y1, y2, rfl, z1, z2, _⟩, b102⟩; have qb102 : Below w101.heap.size w101 w102 := ⟨b102.os, b102.tape, b102.output, b102.size, b102.block⟩; replace R := R.on qb102; replace T := T.on qb102; replace sT := (sT.below qb102 (Nat.le_refl _)).more qb102.size; replace sE := (sE.below qb102 (Nat.le_refl _)).more qb102.size; replace kE := kE.below qb102 kE.lt; replace sC := (sC.below qb102 (Nat.le_refl _)).more qb102.size; replace sD := (sD.below qb102 (Nat.le_refl _)).more qb102.size; replace sX := (sX.below qb102 (Nat.le_refl _)).more qb102.size; replace sY := (sY.below qb102 (Nat.le_refl _)).more qb102.size; replace kD := kD.below qb102 kD.lt; replace sB := (sB.below qb102 (Nat.le_refl _)).more qb102.size; replace sA := (sA.below qb102 (Nat.le_refl _)).more qb102.size; replace kA := kA.below qb102 kA.lt; replace sF := (sF.below qb102 (Nat.le_refl _)).more qb102.size; replace kF := kF.below qb102 kF.lt; replace s1 := (s1.below qb102 (Nat.le_refl _)).more qb102.size; replace s2 := (s2.below qb102 (Nat.le_refl _)).more qb102.size; replace HBW := below_on HBW qb102 (Nat.le_refl _); clear b102 qb102; obtain ⟨B2, e2, rfl⟩ := z1.form; obtain ⟨B3, e3, rfl⟩ := z2.form; clear z1 z2)
      | (go_at_call 17; refine (specDecodeAll_val _ bs _ T _ sB (Nat.le_refl _) (by omega) WB.out cB.out).mono ?_; rintro e w103 ⟨⟨y1, rfl, z1⟩, b103⟩; have qb103 : Below w102.heap.size w102 w103 := ⟨b103.os, b103.tape, b103.output, b103.size, b103.block⟩; replace R := R.on qb103; replace T := T.on qb103; replace sT := (sT.below qb103 (Nat.le_refl _)).more qb103.size; replace sE := (sE.below qb103 (Nat.le_refl _)).more qb103.size; replace kE := kE.below qb103 kE.lt; replace sC := (sC.below qb103 (Nat.le_refl _)).more qb103.size; replace sD := (sD.below qb103 (Nat.le_refl _)).more qb103.size; replace sX := (sX.below qb103 (Nat.le_refl _)).more qb103.size; replace sY := (sY.below qb103 (Nat.le_refl _)).more qb103.size; replace kD := kD.below qb103 kD.lt; replace sB := (sB.below qb103 (Nat.le_refl _)).more qb103.size; replace sA := (sA.below qb103 (Nat.le_refl _)).more qb103.size; replace kA := kA.below qb103 kA.lt; replace sF := (sF.below qb103 (Nat.le_refl _)).more qb103.size; replace kF := kF.below qb103 kF.lt; replace s1 := (s1.below qb103 (Nat.le_refl _)).more qb103.size; replace s2 := (s2.below qb103 (Nat.le_refl _)).more qb103.size; replace HBW := below_on HBW qb103 (Nat.le_refl _); clear b103 qb103; obtain ⟨B4, e4, rfl⟩ := z1.form; clear z1)
      | (go_at_call 17; refine (specDecodeAll_val _ bs _ T _ sB (Nat.le_refl _) (by omega) WB.out cB.out).mono ?_; rintro e w104 ⟨⟨y1, rfl, z1⟩, b104⟩; have qb104 : Below w103.heap.size w103 w104 := ⟨b104.os, b104.tape, b104.output, b104.size, b104.block⟩; replace R := R.on qb104; replace T := T.on qb104; replace sT := (sT.below qb104 (Nat.le_refl _)).more qb104.size; replace sE := (sE.below qb104 (Nat.le_refl _)).more qb104.size; replace kE := kE.below qb104 kE.lt; replace sC := (sC.below qb104 (Nat.le_refl _)).more qb104.size; replace sD := (sD.below qb104 (Nat.le_refl _)).more qb104.size; replace sX := (sX.below qb104 (Nat.le_refl _)).more qb104.size; replace sY := (sY.below qb104 (Nat.le_refl _)).more qb104.size; replace kD := kD.below qb104 kD.lt; replace sB := (sB.below qb104 (Nat.le_refl _)).more qb104.size; replace sA := (sA.below qb104 (Nat.le_refl _)).more qb104.size; replace kA := kA.below qb104 kA.lt; replace sF := (sF.below qb104 (Nat.le_refl _)).more qb104.size; replace kF := kF.below qb104 kF.lt; replace s1 := (s1.below qb104 (Nat.le_refl _)).more qb104.size; replace s2 := (s2.below qb104 (Nat.le_refl _)).more qb104.size; replace HBW := below_on HBW qb104 (Nat.le_refl _); clear b104 qb104; obtain ⟨B14, e14, rfl⟩ := z1.form; have sL := z1.sees; clear z1)
      | (go_at_call 18; refine (lwNums_see _ _ _ _ _ _ sA sL (by omega) (by omega)).mono ?_; rintro e w105 ⟨rfl, n105, hn105⟩; have b105 := below_drawn hn105; clear hn105; have qb105 : Below w104.heap.size w104 w105 := ⟨b105.os, b105.tape, b105.output, b105.size, b105.block⟩; replace R := R.on qb105; replace T := T.on qb105; replace sT := (sT.below qb105 (Nat.le_refl _)).more qb105.size; replace sE := (sE.below qb105 (Nat.le_refl _)).more qb105.size; replace kE := kE.below qb105 kE.lt; replace sC := (sC.below qb105 (Nat.le_refl _)).more qb105.size; replace sD := (sD.below qb105 (Nat.le_refl _)).more qb105.size; replace sX := (sX.below qb105 (Nat.le_refl _)).more qb105.size; replace sY := (sY.below qb105 (Nat.le_refl _)).more qb105.size; replace kD := kD.below qb105 kD.lt; replace sB := (sB.below qb105 (Nat.le_refl _)).more qb105.size; replace sA := (sA.below qb105 (Nat.le_refl _)).more qb105.size; replace kA := kA.below qb105 kA.lt; replace sF := (sF.below qb105 (Nat.le_refl _)).more qb105.size; replace kF := kF.below qb105 kF.lt; replace s1 := (s1.below qb105 (Nat.le_refl _)).more qb105.size; replace s2 := (s2.below qb105 (Nat.le_refl _)).more qb105.size; replace HBW := below_on HBW qb105 (Nat.le_refl _); clear b105 qb105)
      | (go_at_call 19; refine (isChar_any x _).mono ?_; rintro e w106 ⟨rfl, b106⟩; have qb106 : Below w105.heap.size w105 w106 := ⟨b106.os, b106.tape, b106.output, b106.size, b106.block⟩; replace R := R.on qb106; replace T := T.on qb106; replace sT := (sT.below qb106 (Nat.le_refl _)).more qb106.size; replace sE := (sE.below qb106 (Nat.le_refl _)).more qb106.size; replace kE := kE.below qb106 kE.lt; replace sC := (sC.below qb106 (Nat.le_refl _)).more qb106.size; replace sD := (sD.below qb106 (Nat.le_refl _)).more qb106.size; replace sX := (sX.below qb106 (Nat.le_refl _)).more qb106.size; replace sY := (sY.below qb106 (Nat.le_refl _)).more qb106.size; replace kD := kD.below qb106 kD.lt; replace sB := (sB.below qb106 (Nat.le_refl _)).more qb106.size; replace sA := (sA.below qb106 (Nat.le_refl _)).more qb106.size; replace kA := kA.below qb106 kA.lt; replace sF := (sF.below qb106 (Nat.le_refl _)).more qb106.size; replace kF := kF.below qb106 kF.lt; replace s1 := (s1.below qb106 (Nat.le_refl _)).more qb106.size; replace s2 := (s2.below qb106 (Nat.le_refl _)).more qb106.size; replace HBW := below_on HBW qb106 (Nat.le_refl _); clear b106 qb106)
      | (go_at_call 20; refine (specIsChar_any x _).mono ?_; rintro e w' ⟨rfl, rfl⟩)
      | (go_at_call 13; refine (drawFlushCarry_any A c zs _ R HB.out zl).mono ?_; rintro e w107 ⟨⟨y1, rfl, z1⟩, b107⟩; have qb107 : Below w106.heap.size w106 w107 := ⟨b107.os, b107.tape, b107.output, b107.size, b107.block⟩; replace R := R.on qb107; replace T := T.on qb107; replace sT := (sT.below qb107 (Nat.le_refl _)).more qb107.size; replace sE := (sE.below qb107 (Nat.le_refl _)).more qb107.size; replace kE := kE.below qb107 kE.lt; replace sC := (sC.below qb107 (Nat.le_refl _)).more qb107.size; replace sD := (sD.below qb107 (Nat.le_refl _)).more qb107.size; replace sX := (sX.below qb107 (Nat.le_refl _)).more qb107.size; replace sY := (sY.below qb107 (Nat.le_refl _)).more qb107.size; replace kD := kD.below qb107 kD.lt; replace sB := (sB.below qb107 (Nat.le_refl _)).more qb107.size; replace sA := (sA.below qb107 (Nat.le_refl _)).more qb107.size; replace kA := kA.below qb107 kA.lt; replace sF := (sF.below qb107 (Nat.le_refl _)).more qb107.size; replace kF := kF.below qb107 kF.lt; replace s1 := (s1.below qb107 (Nat.le_refl _)).more qb107.size; replace s2 := (s2.below qb107 (Nat.le_refl _)).more qb107.size; replace HBW := below_on HBW qb107 (Nat.le_refl _); clear b107 qb107; rw [← hcs.out] at z1; obtain ⟨B5, e5, rfl, _⟩ := id z1; have sG := z1; clear z1)
      | (go_at_call 21; refine (specFlushCarry_val _ cs _ T _ sG (Nat.le_refl _) (by omega) WC.out).mono ?_; rintro e w108 ⟨⟨y1, y2, rfl, z1, z2, _⟩, b108⟩; have qb108 : Below w107.heap.size w107 w108 := ⟨b108.os, b108.tape, b108.output, b108.size, b108.block⟩; replace R := R.on qb108; replace T := T.on qb108; replace sT := (sT.below qb108 (Nat.le_refl _)).more qb108.size; replace sE := (sE.below qb108 (Nat.le_refl _)).more qb108.size; replace kE := kE.below qb108 kE.lt; replace sC := (sC.below qb108 (Nat.le_refl _)).more qb108.size; replace sD := (sD.below qb108 (Nat.le_refl _)).more qb108.size; replace sX := (sX.below qb108 (Nat.le_refl _)).more qb108.size; replace sY := (sY.below qb108 (Nat.le_refl _)).more qb108.size; replace kD := kD.below qb108 kD.lt; replace sB := (sB.below qb108 (Nat.le_refl _)).more qb108.size; replace sA := (sA.below qb108 (Nat.le_refl _)).more qb108.size; replace kA := kA.below qb108 kA.lt; replace sF := (sF.below qb108 (Nat.le_refl _)).more qb108.size; replace kF := kF.below qb108 kF.lt; replace s1 := (s1.below qb108 (Nat.le_refl _)).more qb108.size; replace s2 := (s2.below qb108 (Nat.le_refl _)).more qb108.size; replace HBW := below_on HBW qb108 (Nat.le_refl _); clear b108 qb108; obtain ⟨B6, e6, rfl⟩ := z1.form; obtain ⟨B7, e7, rfl⟩ := z2.form; clear z1 z2)
      | (go_at_call 22; refine (implSameTexts_see _ _ _ _ _ _ s1 s2 (by omega) (by omega)).mono ?_; rintro e w109 ⟨rfl, n109, hn109⟩; have b109 := below_drawn hn109; clear hn109; have qb109 : Below w108.heap.size w108 w109 := ⟨b109.os, b109.tape, b109.output, b109.size, b109.block⟩; replace R := R.on qb109; replace T := T.on qb109; replace sT := (sT.below qb109 (Nat.le_refl _)).more qb109.size; replace sE := (sE.below qb109 (Nat.le_refl _)).more qb109.size; replace kE := kE.below qb109 kE.lt; replace sC := (sC.below qb109 (Nat.le_refl _)).more qb109.size; replace sD := (sD.below qb109 (Nat.le_refl _)).more qb109.size; replace sX := (sX.below qb109 (Nat.le_refl _)).more qb109.size; replace sY := (sY.below qb109 (Nat.le_refl _)).more qb109.size; replace kD := kD.below qb109 kD.lt; replace sB := (sB.below qb109 (Nat.le_refl _)).more qb109.size; replace sA := (sA.below qb109 (Nat.le_refl _)).more qb109.size; replace kA := kA.below qb109 kA.lt; replace sF := (sF.below qb109 (Nat.le_refl _)).more qb109.size; replace kF := kF.below qb109 kF.lt; replace s1 := (s1.below qb109 (Nat.le_refl _)).more qb109.size; replace s2 := (s2.below qb109 (Nat.le_refl _)).more qb109.size; replace HBW := below_on HBW qb109 (Nat.le_refl _); clear b109 qb109)
      | (go_at_call 23; refine (specSameTexts_see _ _ _ _ _ _ s1 s2 (by omega) (by omega)).mono ?_; rintro e w110 ⟨rfl, n110, hn110⟩; have b110 := below_drawn hn110; clear hn110; have qb110 : Below w109.heap.size w109 w110 := ⟨b110.os, b110.tape, b110.output, b110.size, b110.block⟩; replace R := R.on qb110; replace T := T.on qb110; replace sT := (sT.below qb110 (Nat.le_refl _)).more qb110.size; replace sE := (sE.below qb110 (Nat.le_refl _)).more qb110.size; replace kE := kE.below qb110 kE.lt; replace sC := (sC.below qb110 (Nat.le_refl _)).more qb110.size; replace sD := (sD.below qb110 (Nat.le_refl _)).more qb110.size; replace sX := (sX.below qb110 (Nat.le_refl _)).more qb110.size; replace sY := (sY.below qb110 (Nat.le_refl _)).more qb110.size; replace kD := kD.below qb110 kD.lt; replace sB := (sB.below qb110 (Nat.le_refl _)).more qb110.size; replace sA := (sA.below qb110 (Nat.le_refl _)).more qb110.size; replace kA := kA.below qb110 kA.lt; replace sF := (sF.below qb110 (Nat.le_refl _)).more qb110.size; replace kF := kF.below qb110 kF.lt; replace s1 := (s1.below qb110 (Nat.le_refl _)).more qb110.size; replace s2 := (s2.below qb110 (Nat.le_refl _)).more qb110.size; replace HBW := below_on HBW qb110 (Nat.le_refl _); clear b110 qb110)
      | (go_at_call 24; refine (carryFault_val _ cs _ T _ sC (Nat.le_refl _) (by omega) WC.out).mono ?_; rintro e w111 ⟨rfl, b111⟩; have qb111 : Below w110.heap.size w110 w111 := ⟨b111.os, b111.tape, b111.output, b111.size, b111.block⟩; replace R := R.on qb111; replace T := T.on qb111; replace sT := (sT.below qb111 (Nat.le_refl _)).more qb111.size; replace sE := (sE.below qb111 (Nat.le_refl _)).more qb111.size; replace kE := kE.below qb111 kE.lt; replace sC := (sC.below qb111 (Nat.le_refl _)).more qb111.size; replace sD := (sD.below qb111 (Nat.le_refl _)).more qb111.size; replace sX := (sX.below qb111 (Nat.le_refl _)).more qb111.size; replace sY := (sY.below qb111 (Nat.le_refl _)).more qb111.size; replace kD := kD.below qb111 kD.lt; replace sB := (sB.below qb111 (Nat.le_refl _)).more qb111.size; replace sA := (sA.below qb111 (Nat.le_refl _)).more qb111.size; replace kA := kA.below qb111 kA.lt; replace sF := (sF.below qb111 (Nat.le_refl _)).more qb111.size; replace kF := kF.below qb111 kF.lt; replace s1 := (s1.below qb111 (Nat.le_refl _)).more qb111.size; replace s2 := (s2.below qb111 (Nat.le_refl _)).more qb111.size; replace HBW := below_on HBW qb111 (Nat.le_refl _); clear b111 qb111)
      | (go_at_call 25; refine (specCarryFault_val _ cs _ T _ sC (Nat.le_refl _) (by omega) WC.out).mono ?_; rintro e w112 ⟨rfl, b112⟩; have qb112 : Below w111.heap.size w111 w112 := ⟨b112.os, b112.tape, b112.output, b112.size, b112.block⟩; replace R := R.on qb112; replace T := T.on qb112; replace sT := (sT.below qb112 (Nat.le_refl _)).more qb112.size; replace sE := (sE.below qb112 (Nat.le_refl _)).more qb112.size; replace kE := kE.below qb112 kE.lt; replace sC := (sC.below qb112 (Nat.le_refl _)).more qb112.size; replace sD := (sD.below qb112 (Nat.le_refl _)).more qb112.size; replace sX := (sX.below qb112 (Nat.le_refl _)).more qb112.size; replace sY := (sY.below qb112 (Nat.le_refl _)).more qb112.size; replace kD := kD.below qb112 kD.lt; replace sB := (sB.below qb112 (Nat.le_refl _)).more qb112.size; replace sA := (sA.below qb112 (Nat.le_refl _)).more qb112.size; replace kA := kA.below qb112 kA.lt; replace sF := (sF.below qb112 (Nat.le_refl _)).more qb112.size; replace kF := kF.below qb112 kF.lt; replace s1 := (s1.below qb112 (Nat.le_refl _)).more qb112.size; replace s2 := (s2.below qb112 (Nat.le_refl _)).more qb112.size; replace HBW := below_on HBW qb112 (Nat.le_refl _); clear b112 qb112)
      )
    go_wp2_with fail
    have la2 : (allL bs).length < 1000 := by omega
    go_loopw [14] (fun iv wr => ∃ k : Nat, k ≤ (allL bs).length ∧ iv = .int .i64 k ∧ Below w112.heap.size w112 wr) (fun iv _ => (allL bs).length - (intOf iv).toNat)
    case atStart => exact ⟨0, by omega, rfl, Below.refl _ _⟩
    case round =>
      obtain ⟨k, hk, rfl, hbr⟩ := hrel
      have kc := (kA.below hbr kA.lt).cell 1 (u := .slice A8 (allL bs).length c8) rfl
      by_cases hlt : k < (allL bs).length
      · have LCk := LC.out _ (nth_in (allL bs) k hlt)
        obtain ⟨A8', c8', e8, r8⟩ := sA.below hbr (Nat.le_refl _)
        injection e8 with e81 e82 e83
        subst e81; subst e83
        obtain ⟨b8, off8, rfl, _, hc8⟩ := r8.int (by omega)
        have hc0 := hc8 k hlt
        clear hc8 e82
        obtain ⟨z, hz⟩ : ∃ z, Hid (nth (allL bs) k = z) := ⟨_, Lib.hid rfl⟩
        rw [hz.out] at hc0 LCk
        have zd : decide ((0 ≤ z ∧ z ≤ 55295) ∨ (57344 ≤ z ∧ z ≤ 1114111)) = true := LCk
        go_wp2_with fail
        refine (isChar_any z wr).mono ?_
        rintro e wq ⟨rfl, bq⟩
        rw [zd]
        have bq2 := below_on hbr bq (Nat.le_refl _)
        go_wp2
        go_roundw
        case rel => exact ⟨k + 1, by omega, by go_num, bq2⟩
        case measure => first | omega | (simp [intOf]; omega)
      · obtain rfl : k = (allL bs).length := by omega
        replace R := R.on hbr
        replace T := T.on hbr
        replace sT := (sT.below hbr (Nat.le_refl _)).more hbr.size
        replace sE := (sE.below hbr (Nat.le_refl _)).more hbr.size
        replace kE := kE.below hbr kE.lt
        replace sC := (sC.below hbr (Nat.le_refl _)).more hbr.size
        replace sD := (sD.below hbr (Nat.le_refl _)).more hbr.size
        replace sX := (sX.below hbr (Nat.le_refl _)).more hbr.size
        replace sY := (sY.below hbr (Nat.le_refl _)).more hbr.size
        replace kD := kD.below hbr kD.lt
        replace sB := (sB.below hbr (Nat.le_refl _)).more hbr.size
        replace sA := (sA.below hbr (Nat.le_refl _)).more hbr.size
        replace kA := kA.below hbr kA.lt
        replace sF := (sF.below hbr (Nat.le_refl _)).more hbr.size
        replace kF := kF.below hbr kF.lt
        replace s1 := (s1.below hbr (Nat.le_refl _)).more hbr.size
        replace s2 := (s2.below hbr (Nat.le_refl _)).more hbr.size
        replace HBW := below_on HBW hbr (Nat.le_refl _)
        have ce0 := kE.cell 0 (u := .int .i64 (encode ts).1) rfl
        have ce1 := kE.cell 1 (u := .slice A2 (encode ts).2.length c2) rfl
        clear sB sA kA sF kF s1 s2
        by_cases e0 : (encode ts).1 = 0
        · have f0 : ((encode ts).1 == 0) = true := by simp [e0]
          have eb := encode_len ts
          by_cases el : (encode ts).2.length ≤ 600
          · have EA := Lib.hid (enc_all e0 el)
            have fl : ((encode ts).2.length : Int) ≤ 600 := by omega
            clear e0 el
            go_wp2_with fail
            refine (decodeAll_val _ (encode ts).2 wr T wr.heap.size sE (Nat.le_refl _) (by omega) (wf_bytes (encode_bytes ts)) cE.out).mono ?_
            rintro e wA ⟨⟨u, rfl, o⟩, bA⟩
            rw [EA.out] at o
            obtain ⟨A20, c20, rfl⟩ := o.form
            have sM := o.sees
            clear o
            replace R := R.on bA
            replace T := T.on bA
            replace sT := (sT.below bA (Nat.le_refl _)).more bA.size
            replace sE := (sE.below bA (Nat.le_refl _)).more bA.size
            replace kE := kE.below bA kE.lt
            replace sC := (sC.below bA (Nat.le_refl _)).more bA.size
            replace sD := (sD.below bA (Nat.le_refl _)).more bA.size
            replace sX := (sX.below bA (Nat.le_refl _)).more bA.size
            replace sY := (sY.below bA (Nat.le_refl _)).more bA.size
            replace kD := kD.below bA kD.lt
            replace HBW := below_on HBW bA (Nat.le_refl _)
            clear bA ce0 ce1
            go_wp2_with fail
            refine (lwNums_see _ _ _ _ _ _ sM sT (by omega) (by omega)).mono ?_
            rintro e wB ⟨rfl, nB, hB⟩
            have bB := below_drawn hB
            clear hB sM
            replace R := R.on bB
            replace T := T.on bB
            replace sT := (sT.below bB (Nat.le_refl _)).more bB.size
            replace sE := (sE.below bB (Nat.le_refl _)).more bB.size
            replace kE := kE.below bB kE.lt
            replace sC := (sC.below bB (Nat.le_refl _)).more bB.size
            replace sD := (sD.below bB (Nat.le_refl _)).more bB.size
            replace sX := (sX.below bB (Nat.le_refl _)).more bB.size
            replace sY := (sY.below bB (Nat.le_refl _)).more bB.size
            replace kD := kD.below bB kD.lt
            replace HBW := below_on HBW bB (Nat.le_refl _)
            clear bB
            as_aux_lemma =>
              have cd0 := kD.cell 0 (u := .int .i64 (chunkC cs ds)) rfl
              by_cases d0 : chunkC cs ds = 0
              · have g0 : (chunkC cs ds != 0) = false := by simp [d0]
                have HM := Lib.hid (fun k => cut_math k (bytes_of WC.out) (bytes_of WD.out) d0)
                clear d0
                go_wp2_with fail
                refine (lwAt_any A c zs ((ds.length : Int) + 1) wB R HB.out zl (by omega)).mono ?_
                rintro e wC ⟨⟨x, rfl, x0, x1⟩, bC⟩
                obtain ⟨k, rfl⟩ : ∃ k : Nat, x = (k : Int) := ⟨x.toNat, by omega⟩
                have kd : k ≤ ds.length := by omega
                have kc : k ≤ c4 := by have := cD.1; omega
                have cD1 := cD.1
                replace R := R.on bC
                replace T := T.on bC
                replace sT := (sT.below bC (Nat.le_refl _)).more bC.size
                replace sE := (sE.below bC (Nat.le_refl _)).more bC.size
                replace kE := kE.below bC kE.lt
                replace sC := (sC.below bC (Nat.le_refl _)).more bC.size
                replace sD := (sD.below bC (Nat.le_refl _)).more bC.size
                replace sX := (sX.below bC (Nat.le_refl _)).more bC.size
                replace sY := (sY.below bC (Nat.le_refl _)).more bC.size
                replace kD := kD.below bC kD.lt
                replace HBW := below_on HBW bC (Nat.le_refl _)
                clear x0 x1 bC cd0
                have M := Lib.hid (HM.out k)
                have sD1 := sD.hi k kd
                have sD2 := sD.lo k rfl cD1
                have WP1 := Lib.hid (fun n (h : n ∈ ds.take k) => WD.out n (List.mem_of_mem_take h))
                have WP2 := Lib.hid (fun n (h : n ∈ ds.drop k) => WD.out n (List.mem_of_mem_drop h))
                have lp1 : (ds.take k).length ≤ ds.length := by rw [List.length_take]; omega
                have lp2 : (ds.drop k).length ≤ ds.length := by rw [List.length_drop]; omega
                obtain ⟨p1, hp1⟩ : ∃ p1, Hid (ds.take k = p1) := ⟨_, Lib.hid rfl⟩
                obtain ⟨p2, hp2⟩ : ∃ p2, Hid (ds.drop k = p2) := ⟨_, Lib.hid rfl⟩
                rw [hp1.out] at sD1 WP1 lp1 M
                rw [hp2.out] at sD2 WP2 lp2 M
                clear hp1 hp2
                have L1 := chunk_len cs p1
                have L2 := chunk_len (chunkR cs p1) p2
                obtain ⟨t1, ht1⟩ : ∃ t1, Hid (chunkT cs p1 = t1) := ⟨_, Lib.hid rfl⟩
                obtain ⟨r1, hr1⟩ : ∃ r1, Hid (chunkR cs p1 = r1) := ⟨_, Lib.hid rfl⟩
                obtain ⟨t2, ht2⟩ : ∃ t2, Hid (chunkT r1 p2 = t2) := ⟨_, Lib.hid rfl⟩
                have RB := Lib.hid (wf_bytes (chunkR_bytes (bytes_of WC.out) (bytes_of WP1.out)))
                rw [ht1.out, hr1.out] at L1 M
                rw [hr1.out] at L2 RB
                rw [ht2.out] at L2 M
                obtain ⟨q1, q2, q3, q4⟩ : t1.length < 5000 ∧ r1.length < 5000 ∧ t2.length < 10000 ∧ (chunkT cs ds).length < 10000 := by have := chunk_len cs ds; omega
                clear L1 L2
                go_wp2_with fail
                refine (decodeChunk_val _ cs _ p1 wC T wC.heap.size sC (Nat.le_refl _) (by omega) WC.out wC.heap.size sD1 (Nat.le_refl _) (by omega) WP1.out).mono ?_
                rintro e wD ⟨⟨u1, u2, rfl, o1, o2, _⟩, bD⟩
                rw [M.out.1]
                rw [ht1.out] at o1
                rw [hr1.out] at o2
                obtain ⟨A14, c14, rfl⟩ := o1.form
                obtain ⟨A15, c15, rfl⟩ := o2.form
                have sP1 := o1.sees
                have sR1 := o2.sees
                clear o1 o2
                replace R := R.on bD
                replace T := T.on bD
                replace sT := (sT.below bD (Nat.le_refl _)).more bD.size
                replace sE := (sE.below bD (Nat.le_refl _)).more bD.size
                replace kE := kE.below bD kE.lt
                replace sC := (sC.below bD (Nat.le_refl _)).more bD.size
                replace sD := (sD.below bD (Nat.le_refl _)).more bD.size
                replace sX := (sX.below bD (Nat.le_refl _)).more bD.size
                replace sY := (sY.below bD (Nat.le_refl _)).more bD.size
                replace kD := kD.below bD kD.lt
                replace sD1 := (sD1.below bD (Nat.le_refl _)).more bD.size
                replace sD2 := (sD2.below bD (Nat.le_refl _)).more bD.size
                replace HBW := below_on HBW bD (Nat.le_refl _)
                clear bD
                have bE := (Below.refl wD.heap.size wD).alloc (Nat.le_refl _) (.cells #[.int .i64 0, .slice A14 t1.length c14, .slice A15 r1.length c15] 32)
                have kP := Blk.new wD 32 #[.int .i64 0, .slice A14 t1.length c14, .slice A15 r1.length c15]
                replace R := R.on bE
                replace T := T.on bE
                replace sT := (sT.below bE (Nat.le_refl _)).more bE.size
                replace sE := (sE.below bE (Nat.le_refl _)).more bE.size
                replace kE := kE.below bE kE.lt
                replace sC := (sC.below bE (Nat.le_refl _)).more bE.size
                replace sD := (sD.below bE (Nat.le_refl _)).more bE.size
                replace sX := (sX.below bE (Nat.le_refl _)).more bE.size
                replace sY := (sY.below bE (Nat.le_refl _)).more bE.size
                replace kD := kD.below bE kD.lt
                replace sD1 := (sD1.below bE (Nat.le_refl _)).more bE.size
                replace sD2 := (sD2.below bE (Nat.le_refl _)).more bE.size
                replace sP1 := (sP1.below bE (Nat.le_refl _)).more bE.size
                replace sR1 := (sR1.below bE (Nat.le_refl _)).more bE.size
                replace HBW := below_on HBW bE (Nat.le_refl _)
                clear bE
                go_wp2_with fail
                generalize hgE : wD.alloc (.cells #[.int .i64 0, .slice A14 t1.length c14, .slice A15 r1.length c15] 32) = wE at *
                clear hgE
                have bz3 : Below wE.heap.size wE wE.drew := ⟨rfl, rfl, rfl, Nat.le_refl _, fun _ _ => rfl⟩
                replace R := R.on bz3
                replace T := T.on bz3
                replace sT := (sT.below bz3 (Nat.le_refl _)).more bz3.size
                replace sE := (sE.below bz3 (Nat.le_refl _)).more bz3.size
                replace kE := kE.below bz3 kE.lt
                replace sC := (sC.below bz3 (Nat.le_refl _)).more bz3.size
                replace sD := (sD.below bz3 (Nat.le_refl _)).more bz3.size
                replace sX := (sX.below bz3 (Nat.le_refl _)).more bz3.size
                replace sY := (sY.below bz3 (Nat.le_refl _)).more bz3.size
                replace kD := kD.below bz3 kD.lt
                replace sD1 := (sD1.below bz3 (Nat.le_refl _)).more bz3.size
                replace sD2 := (sD2.below bz3 (Nat.le_refl _)).more bz3.size
                replace sP1 := (sP1.below bz3 (Nat.le_refl _)).more bz3.size
                replace sR1 := (sR1.below bz3 (Nat.le_refl _)).more bz3.size
                replace kP := kP.below bz3 kP.lt
                replace HBW := below_on HBW bz3 (Nat.le_refl _)
                clear bz3
                have hEP : wD.heap.size < wE.heap.size := kP.lt
                go_region_held3 (fun w' => w'.cell? ⟨wD.heap.size, 2, none⟩ = some (.slice A15 r1.length c15)) (first | exact kP.cell 2 rfl | exact (kP.alloc _).cell 2 rfl | exact (((kP.far2 _ _ (Nat.ne_of_gt hEP)).far2 _ _ (Nat.ne_of_gt hEP)).far2 _ _ (Nat.ne_of_gt hEP)).cell 2 rfl) (first
                  | (go_at_call 8; rw [loA_fold]; refine (decodeChunk_val _ r1 _ p2 _ T _ sR1 (Nat.le_refl _) (by omega) RB.out _ sD2 (Nat.le_refl _) (by omega) WP2.out).mono ?_; rintro e wF ⟨⟨u1, u2, rfl, o1, o2, _⟩, bF⟩; rw [M.out.2.1]; rw [ht2.out] at o1; rw [M.out.2.2.2.1] at o2; have qF : Below wE.drew.heap.size wE.drew wF := ⟨bF.os, bF.tape, bF.output, bF.size, bF.block⟩; obtain ⟨A16, c16, rfl⟩ := o1.form; obtain ⟨A17, c17, rfl⟩ := o2.form; have sP2 := o1.sees; have sR2 := o2.sees; clear o1 o2; replace R := R.on qF; replace T := T.on qF; replace sT := (sT.below qF (Nat.le_refl _)).more qF.size; replace sE := (sE.below qF (Nat.le_refl _)).more qF.size; replace kE := kE.below qF kE.lt; replace sC := (sC.below qF (Nat.le_refl _)).more qF.size; replace sD := (sD.below qF (Nat.le_refl _)).more qF.size; replace sX := (sX.below qF (Nat.le_refl _)).more qF.size; replace sY := (sY.below qF (Nat.le_refl _)).more qF.size; replace kD := kD.below qF kD.lt; replace sD1 := (sD1.below qF (Nat.le_refl _)).more qF.size; replace sD2 := (sD2.below qF (Nat.le_refl _)).more qF.size; replace sP1 := (sP1.below qF (Nat.le_refl _)).more qF.size; replace sR1 := (sR1.below qF (Nat.le_refl _)).more qF.size; replace kP := kP.below qF kP.lt; replace HBW := below_on HBW qF (Nat.le_refl _); clear bF qF)
                  | (go_at_call 8; rw [loA_fold]; have bG := (Below.refl wE.drew.heap.size wE.drew).alloc (Nat.le_refl _) (.cells #[.int .i64 0, .slice none 0 0, .slice none 0 0] 32); have kZ : Blk (wE.drew.alloc (.cells #[.int .i64 0, .slice none 0 0, .slice none 0 0] 32)) wE.heap.size 32 #[.int .i64 0, .slice none 0 0, .slice none 0 0] := Blk.new wE.drew 32 _; have o0 := id T; have o1b := id sR1; have o2b := id sD2; replace T := T.on bG; replace sR1 := (sR1.below bG (Nat.le_refl _)).more bG.size; replace sD2 := (sD2.below bG (Nat.le_refl _)).more bG.size; refine (decodeChunk_val _ r1 _ p2 _ T _ sR1 (Nat.le_refl _) (by omega) RB.out _ sD2 (Nat.le_refl _) (by omega) WP2.out).mono ?_; rintro e wF ⟨⟨u1, u2, rfl, o1, o2, _⟩, bF⟩; rw [M.out.2.1]; rw [ht2.out] at o1; rw [M.out.2.2.2.1] at o2; replace T := o0; replace sR1 := o1b; replace sD2 := o2b; obtain ⟨A16, c16, rfl⟩ := o1.form; obtain ⟨A17, c17, rfl⟩ := o2.form; replace kP := kP.below (below_on bG bF (Nat.le_refl _)) kP.lt; replace kZ := kZ.below bF kZ.lt; have z0 := kZ.cell 0 rfl; have z1 := kZ.cell 1 rfl; have z2 := kZ.cell 2 rfl; have y0 := kZ.frozen 0; have y1 := kZ.frozen 1; have y2 := kZ.frozen 2; have bW := below_on bG bF (Nat.le_refl _); clear bF bG)
                  )
                · have bI := (Below.refl wF.heap.size wF).alloc (Nat.le_refl _) (.cells #[.int .i64 0, .slice A16 t2.length c16, .slice A17 (chunkR cs ds).length c17] 32)
                  have kQ := Blk.new wF 32 #[.int .i64 0, .slice A16 t2.length c16, .slice A17 (chunkR cs ds).length c17]
                  replace R := R.on bI
                  replace T := T.on bI
                  replace sT := (sT.below bI (Nat.le_refl _)).more bI.size
                  replace sE := (sE.below bI (Nat.le_refl _)).more bI.size
                  replace kE := kE.below bI kE.lt
                  replace sC := (sC.below bI (Nat.le_refl _)).more bI.size
                  replace sD := (sD.below bI (Nat.le_refl _)).more bI.size
                  replace sX := (sX.below bI (Nat.le_refl _)).more bI.size
                  replace sY := (sY.below bI (Nat.le_refl _)).more bI.size
                  replace kD := kD.below bI kD.lt
                  replace sD1 := (sD1.below bI (Nat.le_refl _)).more bI.size
                  replace sD2 := (sD2.below bI (Nat.le_refl _)).more bI.size
                  replace sP1 := (sP1.below bI (Nat.le_refl _)).more bI.size
                  replace sR1 := (sR1.below bI (Nat.le_refl _)).more bI.size
                  replace kP := kP.below bI kP.lt
                  replace sP2 := (sP2.below bI (Nat.le_refl _)).more bI.size
                  replace sR2 := (sR2.below bI (Nat.le_refl _)).more bI.size
                  replace HBW := below_on HBW bI (Nat.le_refl _)
                  clear bI
                  go_wp2_with fail
                  generalize hgI : wF.alloc (.cells #[.int .i64 0, .slice A16 t2.length c16, .slice A17 (chunkR cs ds).length c17] 32) = wG at *
                  clear hgI
                  clear R sT sE kE sD1 sD2 sR1
                  obtain ⟨i0, hi, hz0, hz1, hz2⟩ := info_parts info_int64
                  have YB := Lib.hid (wf_bytes (chunkR_bytes (bytes_of WC.out) (bytes_of WD.out)))
                  have yl := chunk_len cs ds
                  have bz4 : Below wG.heap.size wG wG.drew := ⟨rfl, rfl, rfl, Nat.le_refl _, fun _ _ => rfl⟩
                  replace T := T.on bz4
                  replace sC := (sC.below bz4 (Nat.le_refl _)).more bz4.size
                  replace sD := (sD.below bz4 (Nat.le_refl _)).more bz4.size
                  replace sX := (sX.below bz4 (Nat.le_refl _)).more bz4.size
                  replace sY := (sY.below bz4 (Nat.le_refl _)).more bz4.size
                  replace kD := kD.below bz4 kD.lt
                  replace sP1 := (sP1.below bz4 (Nat.le_refl _)).more bz4.size
                  replace kP := kP.below bz4 kP.lt
                  replace sP2 := (sP2.below bz4 (Nat.le_refl _)).more bz4.size
                  replace sR2 := (sR2.below bz4 (Nat.le_refl _)).more bz4.size
                  replace kQ := kQ.below bz4 kQ.lt
                  replace HBW := below_on HBW bz4 (Nat.le_refl _)
                  clear bz4
                  go_region_held3 (fun w' => w'.cell? ⟨wD.heap.size, 0, none⟩ = some (.int .i64 0) ∧ w'.cell? ⟨wF.heap.size, 0, none⟩ = some (.int .i64 0) ∧ w'.cell? ⟨wD.heap.size, 1, none⟩ = some (.slice A14 t1.length c14) ∧ w'.cell? ⟨wF.heap.size, 1, none⟩ = some (.slice A16 t2.length c16) ∧ w'.cell? ⟨w5.heap.size, 1, none⟩ = some (.slice A5 (chunkT cs ds).length c5) ∧ w'.cell? ⟨wF.heap.size, 2, none⟩ = some (.slice A17 (chunkR cs ds).length c17) ∧ w'.cell? ⟨w5.heap.size, 2, none⟩ = some (.slice A6 (chunkR cs ds).length c6)) (first | exact ⟨kP.cell 0 rfl, kQ.cell 0 rfl, kP.cell 1 rfl, kQ.cell 1 rfl, kD.cell 1 rfl, kQ.cell 2 rfl, kD.cell 2 rfl⟩ | exact ⟨(kP.alloc _).cell 0 rfl, (kQ.alloc _).cell 0 rfl, (kP.alloc _).cell 1 rfl, (kQ.alloc _).cell 1 rfl, (kD.alloc _).cell 1 rfl, (kQ.alloc _).cell 2 rfl, (kD.alloc _).cell 2 rfl⟩ | exact ⟨(kP.below bH kP.lt).cell 0 rfl, (kQ.below bH kQ.lt).cell 0 rfl, (kP.below bH kP.lt).cell 1 rfl, (kQ.below bH kQ.lt).cell 1 rfl, (kD.below bH kD.lt).cell 1 rfl, (kQ.below bH kQ.lt).cell 2 rfl, (kD.below bH kD.lt).cell 2 rfl⟩) (first
                    | (have bB := (Below.refl wG.drew.heap.size wG.drew).alloc (Nat.le_refl _) (.cells #[] 2); refine step_app (by rfl) _ _ _ rfl wG.drew.heap.size Tryd.underlying24 hi hz0 hz1 hz2 rfl (by omega) rfl (own_empty wG.drew 2) rfl (sP1.below bB (Nat.le_refl _)).rd (by rw [nums_length, Nat.mul_one]) (nums_one _ _) (by omega) (by omega) bB.size ?_; intro v5 wH o5 g5 a5; obtain ⟨A21, c21, rfl⟩ := own_form o5; rw [Nat.zero_add, List.nil_append] at o5; rw [Nat.zero_add]; have bH := bB.grown g5 bB.size (fun b hb => ((own_empty wG.drew 2).lt b hb).1); clear bB g5 a5)
                    | (refine step_app (by rfl) _ _ _ rfl wG.drew.heap.size Tryd.underlying24 hi hz0 hz1 hz2 rfl (by omega) rfl o5 rfl (sP2.below bH (Nat.le_refl _)).rd (by rw [nums_length, Nat.mul_one]) (nums_one _ _) (by omega) (by omega) bH.size ?_; intro v6 wI o6 g6 a6; obtain ⟨A22, c22, rfl⟩ := own_form o6; replace bH := bH.grown g6 bH.size (fun b hb => (o5.lt b hb).1); have sQ := own_app_sees o6 M.out.2.2.1; clear g6 a6 o5 o6; replace T := T.on bH; replace sC := (sC.below bH (Nat.le_refl _)).more bH.size; replace sD := (sD.below bH (Nat.le_refl _)).more bH.size; replace sX := (sX.below bH (Nat.le_refl _)).more bH.size; replace sY := (sY.below bH (Nat.le_refl _)).more bH.size; replace kD := kD.below bH kD.lt; replace sP1 := (sP1.below bH (Nat.le_refl _)).more bH.size; replace kP := kP.below bH kP.lt; replace sP2 := (sP2.below bH (Nat.le_refl _)).more bH.size; replace sR2 := (sR2.below bH (Nat.le_refl _)).more bH.size; replace kQ := kQ.below bH kQ.lt; replace HBW := below_on HBW bH (Nat.le_refl _); clear bH)
                    | (go_at_call 18; refine (lwNums_see _ _ _ _ _ _ sQ sX (by omega) (by omega)).mono ?_; rintro e w113 ⟨rfl, n113, hn113⟩; have b113 := below_drawn hn113; clear hn113; have qb113 : Below wI.heap.size wI w113 := ⟨b113.os, b113.tape, b113.output, b113.size, b113.block⟩; replace T := T.on qb113; replace sC := (sC.below qb113 (Nat.le_refl _)).more qb113.size; replace sD := (sD.below qb113 (Nat.le_refl _)).more qb113.size; replace sX := (sX.below qb113 (Nat.le_refl _)).more qb113.size; replace sY := (sY.below qb113 (Nat.le_refl _)).more qb113.size; replace kD := kD.below qb113 kD.lt; replace sP1 := (sP1.below qb113 (Nat.le_refl _)).more qb113.size; replace kP := kP.below qb113 kP.lt; replace sP2 := (sP2.below qb113 (Nat.le_refl _)).more qb113.size; replace sR2 := (sR2.below qb113 (Nat.le_refl _)).more qb113.size; replace kQ := kQ.below qb113 kQ.lt; replace sQ := (sQ.below qb113 (Nat.le_refl _)).more qb113.size; replace HBW := below_on HBW qb113 (Nat.le_refl _); clear b113 qb113; clear sQ)
                    | (go_at_call 27; refine (lwSame_any _ _ _ _ _ _ _ sR2.rd sY.rd).mono ?_; rintro e w114 ⟨rfl, b114⟩; have qb114 : Below w113.heap.size w113 w114 := ⟨b114.os, b114.tape, b114.output, b114.size, b114.block⟩; replace T := T.on qb114; replace sC := (sC.below qb114 (Nat.le_refl _)).more qb114.size; replace sD := (sD.below qb114 (Nat.le_refl _)).more qb114.size; replace sX := (sX.below qb114 (Nat.le_refl _)).more qb114.size; replace sY := (sY.below qb114 (Nat.le_refl _)).more qb114.size; replace kD := kD.below qb114 kD.lt; replace sP1 := (sP1.below qb114 (Nat.le_refl _)).more qb114.size; replace kP := kP.below qb114 kP.lt; replace sP2 := (sP2.below qb114 (Nat.le_refl _)).more qb114.size; replace sR2 := (sR2.below qb114 (Nat.le_refl _)).more qb114.size; replace kQ := kQ.below qb114 kQ.lt; replace HBW := below_on HBW qb114 (Nat.le_refl _); clear b114 qb114)
                    | (go_at_call 24; refine (carryFault_val _ (chunkR cs ds) _ T _ sY (Nat.le_refl _) (by omega) YB.out).mono ?_; rintro e w115 ⟨rfl, b115⟩; have qb115 : Below w114.heap.size w114 w115 := ⟨b115.os, b115.tape, b115.output, b115.size, b115.block⟩; replace T := T.on qb115; replace sC := (sC.below qb115 (Nat.le_refl _)).more qb115.size; replace sD := (sD.below qb115 (Nat.le_refl _)).more qb115.size; replace sX := (sX.below qb115 (Nat.le_refl _)).more qb115.size; replace sY := (sY.below qb115 (Nat.le_refl _)).more qb115.size; replace kD := kD.below qb115 kD.lt; replace sP1 := (sP1.below qb115 (Nat.le_refl _)).more qb115.size; replace kP := kP.below qb115 kP.lt; replace sP2 := (sP2.below qb115 (Nat.le_refl _)).more qb115.size; replace sR2 := (sR2.below qb115 (Nat.le_refl _)).more qb115.size; replace kQ := kQ.below qb115 kQ.lt; replace HBW := below_on HBW qb115 (Nat.le_refl _); clear b115 qb115; rw [M.out.2.2.2.2])
                    | (go_at_call 16; refine (specDecodeChunk_val _ cs _ ds _ T _ sC (Nat.le_refl _) (by omega) WC.out _ sD (Nat.le_refl _) (by omega) WD.out).mono ?_; rintro e w116 ⟨⟨y1, y2, rfl, z1, z2, _⟩, b116⟩; have qb116 : Below w115.heap.size w115 w116 := ⟨b116.os, b116.tape, b116.output, b116.size, b116.block⟩; replace T := T.on qb116; replace sC := (sC.below qb116 (Nat.le_refl _)).more qb116.size; replace sD := (sD.below qb116 (Nat.le_refl _)).more qb116.size; replace sX := (sX.below qb116 (Nat.le_refl _)).more qb116.size; replace sY := (sY.below qb116 (Nat.le_refl _)).more qb116.size; replace kD := kD.below qb116 kD.lt; replace sP1 := (sP1.below qb116 (Nat.le_refl _)).more qb116.size; replace kP := kP.below qb116 kP.lt; replace sP2 := (sP2.below qb116 (Nat.le_refl _)).more qb116.size; replace sR2 := (sR2.below qb116 (Nat.le_refl _)).more qb116.size; replace kQ := kQ.below qb116 kQ.lt; replace HBW := below_on HBW qb116 (Nat.le_refl _); clear b116 qb116; obtain ⟨B2, e2, rfl⟩ := z1.form; obtain ⟨B3, e3, rfl⟩ := z2.form; have sS := z1.sees; clear z1 z2)
                    | (go_at_call 18; refine (lwNums_see _ _ _ _ _ _ sX sS (by omega) (by omega)).mono ?_; rintro e w117 ⟨rfl, n117, hn117⟩; have b117 := below_drawn hn117; clear hn117; have qb117 : Below w116.heap.size w116 w117 := ⟨b117.os, b117.tape, b117.output, b117.size, b117.block⟩; replace T := T.on qb117; replace sC := (sC.below qb117 (Nat.le_refl _)).more qb117.size; replace sD := (sD.below qb117 (Nat.le_refl _)).more qb117.size; replace sX := (sX.below qb117 (Nat.le_refl _)).more qb117.size; replace sY := (sY.below qb117 (Nat.le_refl _)).more qb117.size; replace kD := kD.below qb117 kD.lt; replace sP1 := (sP1.below qb117 (Nat.le_refl _)).more qb117.size; replace kP := kP.below qb117 kP.lt; replace sP2 := (sP2.below qb117 (Nat.le_refl _)).more qb117.size; replace sR2 := (sR2.below qb117 (Nat.le_refl _)).more qb117.size; replace kQ := kQ.below qb117 kQ.lt; replace HBW := below_on HBW qb117 (Nat.le_refl _); clear b117 qb117)
                    )
                  go_wp2
                  go_ret
                  exact ⟨rfl, HBW⟩
                · replace bW := ((bW.setCell (p := ⟨wE.heap.size, 0, none⟩) (by simp) (.int .i64 0)).setCell (p := ⟨wE.heap.size, 1, none⟩) (by simp) (.slice A16 t2.length c16)).setCell (p := ⟨wE.heap.size, 2, none⟩) (by simp) (.slice A17 (chunkR cs ds).length c17)
                  have kQ := ((kZ.set 0 (.int .i64 0)).set 1 (.slice A16 t2.length c16)).set 2 (.slice A17 (chunkR cs ds).length c17)
                  replace kP := ((kP.far2 ⟨wE.heap.size, 0, none⟩ (.int .i64 0) (Nat.ne_of_gt hEP)).far2 ⟨wE.heap.size, 1, none⟩ (.slice A16 t2.length c16) (Nat.ne_of_gt hEP)).far2 ⟨wE.heap.size, 2, none⟩ (.slice A17 (chunkR cs ds).length c17) (Nat.ne_of_gt hEP)
                  have sP2 := (((o1.set ⟨wE.heap.size, 0, none⟩ (.int .i64 0) (.inl (by simp))).set ⟨wE.heap.size, 1, none⟩ (.slice A16 t2.length c16) (.inl (by simp))).set ⟨wE.heap.size, 2, none⟩ (.slice A17 (chunkR cs ds).length c17) (.inl (by simp))).sees
                  have sR2 := (((o2.set ⟨wE.heap.size, 0, none⟩ (.int .i64 0) (.inl (by simp))).set ⟨wE.heap.size, 1, none⟩ (.slice A16 t2.length c16) (.inl (by simp))).set ⟨wE.heap.size, 2, none⟩ (.slice A17 (chunkR cs ds).length c17) (.inl (by simp))).sees
                  have hsz : wF.heap.size ≤ (((wF.setCell ⟨wE.heap.size, 0, none⟩ (.int .i64 0)).setCell ⟨wE.heap.size, 1, none⟩ (.slice A16 t2.length c16)).setCell ⟨wE.heap.size, 2, none⟩ (.slice A17 (chunkR cs ds).length c17)).heap.size := by simp [World.setCell]
                  replace sP2 := sP2.more hsz
                  replace sR2 := sR2.more hsz
                  clear hsz
                  clear o1 o2 kZ z0 z1 z2 y0 y1 y2
                  replace R := R.on bW
                  replace T := T.on bW
                  replace sT := (sT.below bW (Nat.le_refl _)).more bW.size
                  replace sE := (sE.below bW (Nat.le_refl _)).more bW.size
                  replace kE := kE.below bW kE.lt
                  replace sC := (sC.below bW (Nat.le_refl _)).more bW.size
                  replace sD := (sD.below bW (Nat.le_refl _)).more bW.size
                  replace sX := (sX.below bW (Nat.le_refl _)).more bW.size
                  replace sY := (sY.below bW (Nat.le_refl _)).more bW.size
                  replace kD := kD.below bW kD.lt
                  replace sD1 := (sD1.below bW (Nat.le_refl _)).more bW.size
                  replace sD2 := (sD2.below bW (Nat.le_refl _)).more bW.size
                  replace sP1 := (sP1.below bW (Nat.le_refl _)).more bW.size
                  replace sR1 := (sR1.below bW (Nat.le_refl _)).more bW.size
                  replace HBW := below_on HBW bW (Nat.le_refl _)
                  clear bW
                  go_wp2_with fail
                  generalize hgI : ((wF.setCell ⟨wE.heap.size, 0, none⟩ (.int .i64 0)).setCell ⟨wE.heap.size, 1, none⟩ (.slice A16 t2.length c16)).setCell ⟨wE.heap.size, 2, none⟩ (.slice A17 (chunkR cs ds).length c17) = wG at *
                  clear hgI
                  clear R sT sE kE sD1 sD2 sR1
                  obtain ⟨i0, hi, hz0, hz1, hz2⟩ := info_parts info_int64
                  have YB := Lib.hid (wf_bytes (chunkR_bytes (bytes_of WC.out) (bytes_of WD.out)))
                  have yl := chunk_len cs ds
                  have bz4 : Below wG.heap.size wG wG.drew := ⟨rfl, rfl, rfl, Nat.le_refl _, fun _ _ => rfl⟩
                  replace T := T.on bz4
                  replace sC := (sC.below bz4 (Nat.le_refl _)).more bz4.size
                  replace sD := (sD.below bz4 (Nat.le_refl _)).more bz4.size
                  replace sX := (sX.below bz4 (Nat.le_refl _)).more bz4.size
                  replace sY := (sY.below bz4 (Nat.le_refl _)).more bz4.size
                  replace kD := kD.below bz4 kD.lt
                  replace sP1 := (sP1.below bz4 (Nat.le_refl _)).more bz4.size
                  replace sP2 := (sP2.below bz4 (Nat.le_refl _)).more bz4.size
                  replace sR2 := (sR2.below bz4 (Nat.le_refl _)).more bz4.size
                  replace kP := kP.below bz4 kP.lt
                  replace kQ := kQ.below bz4 kQ.lt
                  replace HBW := below_on HBW bz4 (Nat.le_refl _)
                  clear bz4
                  go_region_held3 (fun w' => w'.cell? ⟨wD.heap.size, 0, none⟩ = some (.int .i64 0) ∧ w'.cell? ⟨wE.heap.size, 0, none⟩ = some (.int .i64 0) ∧ w'.cell? ⟨wD.heap.size, 1, none⟩ = some (.slice A14 t1.length c14) ∧ w'.cell? ⟨wE.heap.size, 1, none⟩ = some (.slice A16 t2.length c16) ∧ w'.cell? ⟨w5.heap.size, 1, none⟩ = some (.slice A5 (chunkT cs ds).length c5) ∧ w'.cell? ⟨wE.heap.size, 2, none⟩ = some (.slice A17 (chunkR cs ds).length c17) ∧ w'.cell? ⟨w5.heap.size, 2, none⟩ = some (.slice A6 (chunkR cs ds).length c6)) (first | exact ⟨kP.cell 0 rfl, kQ.cell 0 rfl, kP.cell 1 rfl, kQ.cell 1 rfl, kD.cell 1 rfl, kQ.cell 2 rfl, kD.cell 2 rfl⟩ | exact ⟨(kP.alloc _).cell 0 rfl, (kQ.alloc _).cell 0 rfl, (kP.alloc _).cell 1 rfl, (kQ.alloc _).cell 1 rfl, (kD.alloc _).cell 1 rfl, (kQ.alloc _).cell 2 rfl, (kD.alloc _).cell 2 rfl⟩ | exact ⟨(kP.below bH kP.lt).cell 0 rfl, (kQ.below bH kQ.lt).cell 0 rfl, (kP.below bH kP.lt).cell 1 rfl, (kQ.below bH kQ.lt).cell 1 rfl, (kD.below bH kD.lt).cell 1 rfl, (kQ.below bH kQ.lt).cell 2 rfl, (kD.below bH kD.lt).cell 2 rfl⟩) (first
                    | (have bB := (Below.refl wG.drew.heap.size wG.drew).alloc (Nat.le_refl _) (.cells #[] 2); refine step_app (by rfl) _ _ _ rfl wG.drew.heap.size Tryd.underlying24 hi hz0 hz1 hz2 rfl (by omega) rfl (own_empty wG.drew 2) rfl (sP1.below bB (Nat.le_refl _)).rd (by rw [nums_length, Nat.mul_one]) (nums_one _ _) (by omega) (by omega) bB.size ?_; intro v5 wH o5 g5 a5; obtain ⟨A21, c21, rfl⟩ := own_form o5; rw [Nat.zero_add, List.nil_append] at o5; rw [Nat.zero_add]; have bH := bB.grown g5 bB.size (fun b hb => ((own_empty wG.drew 2).lt b hb).1); clear bB g5 a5)
                    | (refine step_app (by rfl) _ _ _ rfl wG.drew.heap.size Tryd.underlying24 hi hz0 hz1 hz2 rfl (by omega) rfl o5 rfl (sP2.below bH (Nat.le_refl _)).rd (by rw [nums_length, Nat.mul_one]) (nums_one _ _) (by omega) (by omega) bH.size ?_; intro v6 wI o6 g6 a6; obtain ⟨A22, c22, rfl⟩ := own_form o6; replace bH := bH.grown g6 bH.size (fun b hb => (o5.lt b hb).1); have sQ := own_app_sees o6 M.out.2.2.1; clear g6 a6 o5 o6; replace T := T.on bH; replace sC := (sC.below bH (Nat.le_refl _)).more bH.size; replace sD := (sD.below bH (Nat.le_refl _)).more bH.size; replace sX := (sX.below bH (Nat.le_refl _)).more bH.size; replace sY := (sY.below bH (Nat.le_refl _)).more bH.size; replace kD := kD.below bH kD.lt; replace sP1 := (sP1.below bH (Nat.le_refl _)).more bH.size; replace sP2 := (sP2.below bH (Nat.le_refl _)).more bH.size; replace sR2 := (sR2.below bH (Nat.le_refl _)).more bH.size; replace kP := kP.below bH kP.lt; replace kQ := kQ.below bH kQ.lt; replace HBW := below_on HBW bH (Nat.le_refl _); clear bH)
                    | (go_at_call 18; refine (lwNums_see _ _ _ _ _ _ sQ sX (by omega) (by omega)).mono ?_; rintro e w118 ⟨rfl, n118, hn118⟩; have b118 := below_drawn hn118; clear hn118; have qb118 : Below wI.heap.size wI w118 := ⟨b118.os, b118.tape, b118.output, b118.size, b118.block⟩; replace T := T.on qb118; replace sC := (sC.below qb118 (Nat.le_refl _)).more qb118.size; replace sD := (sD.below qb118 (Nat.le_refl _)).more qb118.size; replace sX := (sX.below qb118 (Nat.le_refl _)).more qb118.size; replace sY := (sY.below qb118 (Nat.le_refl _)).more qb118.size; replace kD := kD.below qb118 kD.lt; replace sP1 := (sP1.below qb118 (Nat.le_refl _)).more qb118.size; replace sP2 := (sP2.below qb118 (Nat.le_refl _)).more qb118.size; replace sR2 := (sR2.below qb118 (Nat.le_refl _)).more qb118.size; replace kP := kP.below qb118 kP.lt; replace kQ := kQ.below qb118 kQ.lt; replace sQ := (sQ.below qb118 (Nat.le_refl _)).more qb118.size; replace HBW := below_on HBW qb118 (Nat.le_refl _); clear b118 qb118; clear sQ)
                    | (go_at_call 27; refine (lwSame_any _ _ _ _ _ _ _ sR2.rd sY.rd).mono ?_; rintro e w119 ⟨rfl, b119⟩; have qb119 : Below w118.heap.size w118 w119 := ⟨b119.os, b119.tape, b119.output, b119.size, b119.block⟩; replace T := T.on qb119; replace sC := (sC.below qb119 (Nat.le_refl _)).more qb119.size; replace sD := (sD.below qb119 (Nat.le_refl _)).more qb119.size; replace sX := (sX.below qb119 (Nat.le_refl _)).more qb119.size; replace sY := (sY.below qb119 (Nat.le_refl _)).more qb119.size; replace kD := kD.below qb119 kD.lt; replace sP1 := (sP1.below qb119 (Nat.le_refl _)).more qb119.size; replace sP2 := (sP2.below qb119 (Nat.le_refl _)).more qb119.size; replace sR2 := (sR2.below qb119 (Nat.le_refl _)).more qb119.size; replace kP := kP.below qb119 kP.lt; replace kQ := kQ.below qb119 kQ.lt; replace HBW := below_on HBW qb119 (Nat.le_refl _); clear b119 qb119)
                    | (go_at_call 24; refine (carryFault_val _ (chunkR cs ds) _ T _ sY (Nat.le_refl _) (by omega) YB.out).mono ?_; rintro e w120 ⟨rfl, b120⟩; have qb120 : Below w119.heap.size w119 w120 := ⟨b120.os, b120.tape, b120.output, b120.size, b120.block⟩; replace T := T.on qb120; replace sC := (sC.below qb120 (Nat.le_refl _)).more qb120.size; replace sD := (sD.below qb120 (Nat.le_refl _)).more qb120.size; replace sX := (sX.below qb120 (Nat.le_refl _)).more qb120.size; replace sY := (sY.below qb120 (Nat.le_refl _)).more qb120.size; replace kD := kD.below qb120 kD.lt; replace sP1 := (sP1.below qb120 (Nat.le_refl _)).more qb120.size; replace sP2 := (sP2.below qb120 (Nat.le_refl _)).more qb120.size; replace sR2 := (sR2.below qb120 (Nat.le_refl _)).more qb120.size; replace kP := kP.below qb120 kP.lt; replace kQ := kQ.below qb120 kQ.lt; replace HBW := below_on HBW qb120 (Nat.le_refl _); clear b120 qb120; rw [M.out.2.2.2.2])
                    | (go_at_call 16; refine (specDecodeChunk_val _ cs _ ds _ T _ sC (Nat.le_refl _) (by omega) WC.out _ sD (Nat.le_refl _) (by omega) WD.out).mono ?_; rintro e w121 ⟨⟨y1, y2, rfl, z1, z2, _⟩, b121⟩; have qb121 : Below w120.heap.size w120 w121 := ⟨b121.os, b121.tape, b121.output, b121.size, b121.block⟩; replace T := T.on qb121; replace sC := (sC.below qb121 (Nat.le_refl _)).more qb121.size; replace sD := (sD.below qb121 (Nat.le_refl _)).more qb121.size; replace sX := (sX.below qb121 (Nat.le_refl _)).more qb121.size; replace sY := (sY.below qb121 (Nat.le_refl _)).more qb121.size; replace kD := kD.below qb121 kD.lt; replace sP1 := (sP1.below qb121 (Nat.le_refl _)).more qb121.size; replace sP2 := (sP2.below qb121 (Nat.le_refl _)).more qb121.size; replace sR2 := (sR2.below qb121 (Nat.le_refl _)).more qb121.size; replace kP := kP.below qb121 kP.lt; replace kQ := kQ.below qb121 kQ.lt; replace HBW := below_on HBW qb121 (Nat.le_refl _); clear b121 qb121; obtain ⟨B2, e2, rfl⟩ := z1.form; obtain ⟨B3, e3, rfl⟩ := z2.form; have sS := z1.sees; clear z1 z2)
                    | (go_at_call 18; refine (lwNums_see _ _ _ _ _ _ sX sS (by omega) (by omega)).mono ?_; rintro e w122 ⟨rfl, n122, hn122⟩; have b122 := below_drawn hn122; clear hn122; have qb122 : Below w121.heap.size w121 w122 := ⟨b122.os, b122.tape, b122.output, b122.size, b122.block⟩; replace T := T.on qb122; replace sC := (sC.below qb122 (Nat.le_refl _)).more qb122.size; replace sD := (sD.below qb122 (Nat.le_refl _)).more qb122.size; replace sX := (sX.below qb122 (Nat.le_refl _)).more qb122.size; replace sY := (sY.below qb122 (Nat.le_refl _)).more qb122.size; replace kD := kD.below qb122 kD.lt; replace sP1 := (sP1.below qb122 (Nat.le_refl _)).more qb122.size; replace sP2 := (sP2.below qb122 (Nat.le_refl _)).more qb122.size; replace sR2 := (sR2.below qb122 (Nat.le_refl _)).more qb122.size; replace kP := kP.below qb122 kP.lt; replace kQ := kQ.below qb122 kQ.lt; replace HBW := below_on HBW qb122 (Nat.le_refl _); clear b122 qb122)
                    )
                  go_wp2
                  go_ret
                  exact ⟨rfl, HBW⟩
              · have g0 : (chunkC cs ds != 0) = true := by simpa using d0
                clear d0
                go_wp2
                go_ret
                exact ⟨rfl, HBW⟩
          · have fl : ¬ ((encode ts).2.length : Int) ≤ 600 := by omega
            clear e0 el
            as_aux_lemma =>
              have cd0 := kD.cell 0 (u := .int .i64 (chunkC cs ds)) rfl
              by_cases d0 : chunkC cs ds = 0
              · have g0 : (chunkC cs ds != 0) = false := by simp [d0]
                have HM := Lib.hid (fun k => cut_math k (bytes_of WC.out) (bytes_of WD.out) d0)
                clear d0
                go_wp2_with fail
                refine (lwAt_any A c zs ((ds.length : Int) + 1) wr R HB.out zl (by omega)).mono ?_
                rintro e wC ⟨⟨x, rfl, x0, x1⟩, bC⟩
                obtain ⟨k, rfl⟩ : ∃ k : Nat, x = (k : Int) := ⟨x.toNat, by omega⟩
                have kd : k ≤ ds.length := by omega
                have kc : k ≤ c4 := by have := cD.1; omega
                have cD1 := cD.1
                replace R := R.on bC
                replace T := T.on bC
                replace sT := (sT.below bC (Nat.le_refl _)).more bC.size
                replace sE := (sE.below bC (Nat.le_refl _)).more bC.size
                replace kE := kE.below bC kE.lt
                replace sC := (sC.below bC (Nat.le_refl _)).more bC.size
                replace sD := (sD.below bC (Nat.le_refl _)).more bC.size
                replace sX := (sX.below bC (Nat.le_refl _)).more bC.size
                replace sY := (sY.below bC (Nat.le_refl _)).more bC.size
                replace kD := kD.below bC kD.lt
                replace HBW := below_on HBW bC (Nat.le_refl _)
                clear x0 x1 bC cd0
                have M := Lib.hid (HM.out k)
                have sD1 := sD.hi k kd
                have sD2 := sD.lo k rfl cD1
                have WP1 := Lib.hid (fun n (h : n ∈ ds.take k) => WD.out n (List.mem_of_mem_take h))
                have WP2 := Lib.hid (fun n (h : n ∈ ds.drop k) => WD.out n (List.mem_of_mem_drop h))
                have lp1 : (ds.take k).length ≤ ds.length := by rw [List.length_take]; omega
                have lp2 : (ds.drop k).length ≤ ds.length := by rw [List.length_drop]; omega
                obtain ⟨p1, hp1⟩ : ∃ p1, Hid (ds.take k = p1) := ⟨_, Lib.hid rfl⟩
                obtain ⟨p2, hp2⟩ : ∃ p2, Hid (ds.drop k = p2) := ⟨_, Lib.hid rfl⟩
                rw [hp1.out] at sD1 WP1 lp1 M
                rw [hp2.out] at sD2 WP2 lp2 M
                clear hp1 hp2
                have L1 := chunk_len cs p1
                have L2 := chunk_len (chunkR cs p1) p2
                obtain ⟨t1, ht1⟩ : ∃ t1, Hid (chunkT cs p1 = t1) := ⟨_, Lib.hid rfl⟩
                obtain ⟨r1, hr1⟩ : ∃ r1, Hid (chunkR cs p1 = r1) := ⟨_, Lib.hid rfl⟩
                obtain ⟨t2, ht2⟩ : ∃ t2, Hid (chunkT r1 p2 = t2) := ⟨_, Lib.hid rfl⟩
                have RB := Lib.hid (wf_bytes (chunkR_bytes (bytes_of WC.out) (bytes_of WP1.out)))
                rw [ht1.out, hr1.out] at L1 M
                rw [hr1.out] at L2 RB
                rw [ht2.out] at L2 M
                obtain ⟨q1, q2, q3, q4⟩ : t1.length < 5000 ∧ r1.length < 5000 ∧ t2.length < 10000 ∧ (chunkT cs ds).length < 10000 := by have := chunk_len cs ds; omega
                clear L1 L2
                go_wp2_with fail
                refine (decodeChunk_val _ cs _ p1 wC T wC.heap.size sC (Nat.le_refl _) (by omega) WC.out wC.heap.size sD1 (Nat.le_refl _) (by omega) WP1.out).mono ?_
                rintro e wD ⟨⟨u1, u2, rfl, o1, o2, _⟩, bD⟩
                rw [M.out.1]
                rw [ht1.out] at o1
                rw [hr1.out] at o2
                obtain ⟨A14, c14, rfl⟩ := o1.form
                obtain ⟨A15, c15, rfl⟩ := o2.form
                have sP1 := o1.sees
                have sR1 := o2.sees
                clear o1 o2
                replace R := R.on bD
                replace T := T.on bD
                replace sT := (sT.below bD (Nat.le_refl _)).more bD.size
                replace sE := (sE.below bD (Nat.le_refl _)).more bD.size
                replace kE := kE.below bD kE.lt
                replace sC := (sC.below bD (Nat.le_refl _)).more bD.size
                replace sD := (sD.below bD (Nat.le_refl _)).more bD.size
                replace sX := (sX.below bD (Nat.le_refl _)).more bD.size
                replace sY := (sY.below bD (Nat.le_refl _)).more bD.size
                replace kD := kD.below bD kD.lt
                replace sD1 := (sD1.below bD (Nat.le_refl _)).more bD.size
                replace sD2 := (sD2.below bD (Nat.le_refl _)).more bD.size
                replace HBW := below_on HBW bD (Nat.le_refl _)
                clear bD
                have bE := (Below.refl wD.heap.size wD).alloc (Nat.le_refl _) (.cells #[.int .i64 0, .slice A14 t1.length c14, .slice A15 r1.length c15] 32)
                have kP := Blk.new wD 32 #[.int .i64 0, .slice A14 t1.length c14, .slice A15 r1.length c15]
                replace R := R.on bE
                replace T := T.on bE
                replace sT := (sT.below bE (Nat.le_refl _)).more bE.size
                replace sE := (sE.below bE (Nat.le_refl _)).more bE.size
                replace kE := kE.below bE kE.lt
                replace sC := (sC.below bE (Nat.le_refl _)).more bE.size
                replace sD := (sD.below bE (Nat.le_refl _)).more bE.size
                replace sX := (sX.below bE (Nat.le_refl _)).more bE.size
                replace sY := (sY.below bE (Nat.le_refl _)).more bE.size
                replace kD := kD.below bE kD.lt
                replace sD1 := (sD1.below bE (Nat.le_refl _)).more bE.size
                replace sD2 := (sD2.below bE (Nat.le_refl _)).more bE.size
                replace sP1 := (sP1.below bE (Nat.le_refl _)).more bE.size
                replace sR1 := (sR1.below bE (Nat.le_refl _)).more bE.size
                replace HBW := below_on HBW bE (Nat.le_refl _)
                clear bE
                go_wp2_with fail
                generalize hgE : wD.alloc (.cells #[.int .i64 0, .slice A14 t1.length c14, .slice A15 r1.length c15] 32) = wE at *
                clear hgE
                have bz3 : Below wE.heap.size wE wE.drew := ⟨rfl, rfl, rfl, Nat.le_refl _, fun _ _ => rfl⟩
                replace R := R.on bz3
                replace T := T.on bz3
                replace sT := (sT.below bz3 (Nat.le_refl _)).more bz3.size
                replace sE := (sE.below bz3 (Nat.le_refl _)).more bz3.size
                replace kE := kE.below bz3 kE.lt
                replace sC := (sC.below bz3 (Nat.le_refl _)).more bz3.size
                replace sD := (sD.below bz3 (Nat.le_refl _)).more bz3.size
                replace sX := (sX.below bz3 (Nat.le_refl _)).more bz3.size
                replace sY := (sY.below bz3 (Nat.le_refl _)).more bz3.size
                replace kD := kD.below bz3 kD.lt
                replace sD1 := (sD1.below bz3 (Nat.le_refl _)).more bz3.size
                replace sD2 := (sD2.below bz3 (Nat.le_refl _)).more bz3.size
                replace sP1 := (sP1.below bz3 (Nat.le_refl _)).more bz3.size
                replace sR1 := (sR1.below bz3 (Nat.le_refl _)).more bz3.size
                replace kP := kP.below bz3 kP.lt
                replace HBW := below_on HBW bz3 (Nat.le_refl _)
                clear bz3
                have hEP : wD.heap.size < wE.heap.size := kP.lt
                go_region_held3 (fun w' => w'.cell? ⟨wD.heap.size, 2, none⟩ = some (.slice A15 r1.length c15)) (first | exact kP.cell 2 rfl | exact (kP.alloc _).cell 2 rfl | exact (((kP.far2 _ _ (Nat.ne_of_gt hEP)).far2 _ _ (Nat.ne_of_gt hEP)).far2 _ _ (Nat.ne_of_gt hEP)).cell 2 rfl) (first
                  | (go_at_call 8; rw [loA_fold]; refine (decodeChunk_val _ r1 _ p2 _ T _ sR1 (Nat.le_refl _) (by omega) RB.out _ sD2 (Nat.le_refl _) (by omega) WP2.out).mono ?_; rintro e wF ⟨⟨u1, u2, rfl, o1, o2, _⟩, bF⟩; rw [M.out.2.1]; rw [ht2.out] at o1; rw [M.out.2.2.2.1] at o2; have qF : Below wE.drew.heap.size wE.drew wF := ⟨bF.os, bF.tape, bF.output, bF.size, bF.block⟩; obtain ⟨A16, c16, rfl⟩ := o1.form; obtain ⟨A17, c17, rfl⟩ := o2.form; have sP2 := o1.sees; have sR2 := o2.sees; clear o1 o2; replace R := R.on qF; replace T := T.on qF; replace sT := (sT.below qF (Nat.le_refl _)).more qF.size; replace sE := (sE.below qF (Nat.le_refl _)).more qF.size; replace kE := kE.below qF kE.lt; replace sC := (sC.below qF (Nat.le_refl _)).more qF.size; replace sD := (sD.below qF (Nat.le_refl _)).more qF.size; replace sX := (sX.below qF (Nat.le_refl _)).more qF.size; replace sY := (sY.below qF (Nat.le_refl _)).more qF.size; replace kD := kD.below qF kD.lt; replace sD1 := (sD1.below qF (Nat.le_refl _)).more qF.size; replace sD2 := (sD2.below qF (Nat.le_refl _)).more qF.size; replace sP1 := (sP1.below qF (Nat.le_refl _)).more qF.size; replace sR1 := (sR1.below qF (Nat.le_refl _)).more qF.size; replace kP := kP.below qF kP.lt; replace HBW := below_on HBW qF (Nat.le_refl _); clear bF qF)
                  | (go_at_call 8; rw [loA_fold]; have bG := (Below.refl wE.drew.heap.size wE.drew).alloc (Nat.le_refl _) (.cells #[.int .i64 0, .slice none 0 0, .slice none 0 0] 32); have kZ : Blk (wE.drew.alloc (.cells #[.int .i64 0, .slice none 0 0, .slice none 0 0] 32)) wE.heap.size 32 #[.int .i64 0, .slice none 0 0, .slice none 0 0] := Blk.new wE.drew 32 _; have o0 := id T; have o1b := id sR1; have o2b := id sD2; replace T := T.on bG; replace sR1 := (sR1.below bG (Nat.le_refl _)).more bG.size; replace sD2 := (sD2.below bG (Nat.le_refl _)).more bG.size; refine (decodeChunk_val _ r1 _ p2 _ T _ sR1 (Nat.le_refl _) (by omega) RB.out _ sD2 (Nat.le_refl _) (by omega) WP2.out).mono ?_; rintro e wF ⟨⟨u1, u2, rfl, o1, o2, _⟩, bF⟩; rw [M.out.2.1]; rw [ht2.out] at o1; rw [M.out.2.2.2.1] at o2; replace T := o0; replace sR1 := o1b; replace sD2 := o2b; obtain ⟨A16, c16, rfl⟩ := o1.form; obtain ⟨A17, c17, rfl⟩ := o2.form; replace kP := kP.below (below_on bG bF (Nat.le_refl _)) kP.lt; replace kZ := kZ.below bF kZ.lt; have z0 := kZ.cell 0 rfl; have z1 := kZ.cell 1 rfl; have z2 := kZ.cell 2 rfl; have y0 := kZ.frozen 0; have y1 := kZ.frozen 1; have y2 := kZ.frozen 2; have bW := below_on bG bF (Nat.le_refl _); clear bF bG)
                  )
                · have bI := (Below.refl wF.heap.size wF).alloc (Nat.le_refl _) (.cells #[.int .i64 0, .slice A16 t2.length c16, .slice A17 (chunkR cs ds).length c17] 32)
                  have kQ := Blk.new wF 32 #[.int .i64 0, .slice A16 t2.length c16, .slice A17 (chunkR cs ds).length c17]
                  replace R := R.on bI
                  replace T := T.on bI
                  replace sT := (sT.below bI (Nat.le_refl _)).more bI.size
                  replace sE := (sE.below bI (Nat.le_refl _)).more bI.size
                  replace kE := kE.below bI kE.lt
                  replace sC := (sC.below bI (Nat.le_refl _)).more bI.size
                  replace sD := (sD.below bI (Nat.le_refl _)).more bI.size
                  replace sX := (sX.below bI (Nat.le_refl _)).more bI.size
                  replace sY := (sY.below bI (Nat.le_refl _)).more bI.size
                  replace kD := kD.below bI kD.lt
                  replace sD1 := (sD1.below bI (Nat.le_refl _)).more bI.size
                  replace sD2 := (sD2.below bI (Nat.le_refl _)).more bI.size
                  replace sP1 := (sP1.below bI (Nat.le_refl _)).more bI.size
                  replace sR1 := (sR1.below bI (Nat.le_refl _)).more bI.size
                  replace kP := kP.below bI kP.lt
                  replace sP2 := (sP2.below bI (Nat.le_refl _)).more bI.size
                  replace sR2 := (sR2.below bI (Nat.le_refl _)).more bI.size
                  replace HBW := below_on HBW bI (Nat.le_refl _)
                  clear bI
                  go_wp2_with fail
                  generalize hgI : wF.alloc (.cells #[.int .i64 0, .slice A16 t2.length c16, .slice A17 (chunkR cs ds).length c17] 32) = wG at *
                  clear hgI
                  clear R sT sE kE sD1 sD2 sR1
                  obtain ⟨i0, hi, hz0, hz1, hz2⟩ := info_parts info_int64
                  have YB := Lib.hid (wf_bytes (chunkR_bytes (bytes_of WC.out) (bytes_of WD.out)))
                  have yl := chunk_len cs ds
                  have bz4 : Below wG.heap.size wG wG.drew := ⟨rfl, rfl, rfl, Nat.le_refl _, fun _ _ => rfl⟩
                  replace T := T.on bz4
                  replace sC := (sC.below bz4 (Nat.le_refl _)).more bz4.size
                  replace sD := (sD.below bz4 (Nat.le_refl _)).more bz4.size
                  replace sX := (sX.below bz4 (Nat.le_refl _)).more bz4.size
                  replace sY := (sY.below bz4 (Nat.le_refl _)).more bz4.size
                  replace kD := kD.below bz4 kD.lt
                  replace sP1 := (sP1.below bz4 (Nat.le_refl _)).more bz4.size
                  replace kP := kP.below bz4 kP.lt
                  replace sP2 := (sP2.below bz4 (Nat.le_refl _)).more bz4.size
                  replace sR2 := (sR2.below bz4 (Nat.le_refl _)).more bz4.size
                  replace kQ := kQ.below bz4 kQ.lt
                  replace HBW := below_on HBW bz4 (Nat.le_refl _)
                  clear bz4
                  go_region_held3 (fun w' => w'.cell? ⟨wD.heap.size, 0, none⟩ = some (.int .i64 0) ∧ w'.cell? ⟨wF.heap.size, 0, none⟩ = some (.int .i64 0) ∧ w'.cell? ⟨wD.heap.size, 1, none⟩ = some (.slice A14 t1.length c14) ∧ w'.cell? ⟨wF.heap.size, 1, none⟩ = some (.slice A16 t2.length c16) ∧ w'.cell? ⟨w5.heap.size, 1, none⟩ = some (.slice A5 (chunkT cs ds).length c5) ∧ w'.cell? ⟨wF.heap.size, 2, none⟩ = some (.slice A17 (chunkR cs ds).length c17) ∧ w'.cell? ⟨w5.heap.size, 2, none⟩ = some (.slice A6 (chunkR cs ds).length c6)) (first | exact ⟨kP.cell 0 rfl, kQ.cell 0 rfl, kP.cell 1 rfl, kQ.cell 1 rfl, kD.cell 1 rfl, kQ.cell 2 rfl, kD.cell 2 rfl⟩ | exact ⟨(kP.alloc _).cell 0 rfl, (kQ.alloc _).cell 0 rfl, (kP.alloc _).cell 1 rfl, (kQ.alloc _).cell 1 rfl, (kD.alloc _).cell 1 rfl, (kQ.alloc _).cell 2 rfl, (kD.alloc _).cell 2 rfl⟩ | exact ⟨(kP.below bH kP.lt).cell 0 rfl, (kQ.below bH kQ.lt).cell 0 rfl, (kP.below bH kP.lt).cell 1 rfl, (kQ.below bH kQ.lt).cell 1 rfl, (kD.below bH kD.lt).cell 1 rfl, (kQ.below bH kQ.lt).cell 2 rfl, (kD.below bH kD.lt).cell 2 rfl⟩) (first
                    | (have bB := (Below.refl wG.drew.heap.size wG.drew).alloc (Nat.le_refl _) (.cells #[] 2); refine step_app (by rfl) _ _ _ rfl wG.drew.heap.size Tryd.underlying24 hi hz0 hz1 hz2 rfl (by omega) rfl (own_empty wG.drew 2) rfl (sP1.below bB (Nat.le_refl _)).rd (by rw [nums_length, Nat.mul_one]) (nums_one _ _) (by omega) (by omega) bB.size ?_; intro v5 wH o5 g5 a5; obtain ⟨A21, c21, rfl⟩ := own_form o5; rw [Nat.zero_add, List.nil_append] at o5; rw [Nat.zero_add]; have bH := bB.grown g5 bB.size (fun b hb => ((own_empty wG.drew 2).lt b hb).1); clear bB g5 a5)
                    | (refine step_app (by rfl) _ _ _ rfl wG.drew.heap.size Tryd.underlying24 hi hz0 hz1 hz2 rfl (by omega) rfl o5 rfl (sP2.below bH (Nat.le_refl _)).rd (by rw [nums_length, Nat.mul_one]) (nums_one _ _) (by omega) (by omega) bH.size ?_; intro v6 wI o6 g6 a6; obtain ⟨A22, c22, rfl⟩ := own_form o6; replace bH := bH.grown g6 bH.size (fun b hb => (o5.lt b hb).1); have sQ := own_app_sees o6 M.out.2.2.1; clear g6 a6 o5 o6; replace T := T.on bH; replace sC := (sC.below bH (Nat.le_refl _)).more bH.size; replace sD := (sD.below bH (Nat.le_refl _)).more bH.size; replace sX := (sX.below bH (Nat.le_refl _)).more bH.size; replace sY := (sY.below bH (Nat.le_refl _)).more bH.size; replace kD := kD.below bH kD.lt; replace sP1 := (sP1.below bH (Nat.le_refl _)).more bH.size; replace kP := kP.below bH kP.lt; replace sP2 := (sP2.below bH (Nat.le_refl _)).more bH.size; replace sR2 := (sR2.below bH (Nat.le_refl _)).more bH.size; replace kQ := kQ.below bH kQ.lt; replace HBW := below_on HBW bH (Nat.le_refl _); clear bH)
                    | (go_at_call 18; refine (lwNums_see _ _ _ _ _ _ sQ sX (by omega) (by omega)).mono ?_; rintro e w123 ⟨rfl, n123, hn123⟩; have b123 := below_drawn hn123; clear hn123; have qb123 : Below wI.heap.size wI w123 := ⟨b123.os, b123.tape, b123.output, b123.size, b123.block⟩; replace T := T.on qb123; replace sC := (sC.below qb123 (Nat.le_refl _)).more qb123.size; replace sD := (sD.below qb123 (Nat.le_refl _)).more qb123.size; replace sX := (sX.below qb123 (Nat.le_refl _)).more qb123.size; replace sY := (sY.below qb123 (Nat.le_refl _)).more qb123.size; replace kD := kD.below qb123 kD.lt; replace sP1 := (sP1.below qb123 (Nat.le_refl _)).more qb123.size; replace kP := kP.below qb123 kP.lt; replace sP2 := (sP2.below qb123 (Nat.le_refl _)).more qb123.size; replace sR2 := (sR2.below qb123 (Nat.le_refl _)).more qb123.size; replace kQ := kQ.below qb123 kQ.lt; replace sQ := (sQ.below qb123 (Nat.le_refl _)).more qb123.size; replace HBW := below_on HBW qb123 (Nat.le_refl _); clear b123 qb123; clear sQ)
                    | (go_at_call 27; refine (lwSame_any _ _ _ _ _ _ _ sR2.rd sY.rd).mono ?_; rintro e w124 ⟨rfl, b124⟩; have qb124 : Below w123.heap.size w123 w124 := ⟨b124.os, b124.tape, b124.output, b124.size, b124.block⟩; replace T := T.on qb124; replace sC := (sC.below qb124 (Nat.le_refl _)).more qb124.size; replace sD := (sD.below qb124 (Nat.le_refl _)).more qb124.size; replace sX := (sX.below qb124 (Nat.le_refl _)).more qb124.size; replace sY := (sY.below qb124 (Nat.le_refl _)).more qb124.size; replace kD := kD.below qb124 kD.lt; replace sP1 := (sP1.below qb124 (Nat.le_refl _)).more qb124.size; replace kP := kP.below qb124 kP.lt; replace sP2 := (sP2.below qb124 (Nat.le_refl _)).more qb124.size; replace sR2 := (sR2.below qb124 (Nat.le_refl _)).more qb124.size; replace kQ := kQ.below qb124 kQ.lt; replace HBW := below_on HBW qb124 (Nat.le_refl _); clear b124 qb124)
                    | (go_at_call 24; refine (carryFault_val _ (chunkR cs ds) _ T _ sY (Nat.le_refl _) (by omega) YB.out).mono ?_; rintro e w125 ⟨rfl, b125⟩; have qb125 : Below w124.heap.size w124 w125 := ⟨b125.os, b125.tape, b125.output, b125.size, b125.block⟩; replace T := T.on qb125; replace sC := (sC.below qb125 (Nat.le_refl _)).more qb125.size; replace sD := (sD.below qb125 (Nat.le_refl _)).more qb125.size; replace sX := (sX.below qb125 (Nat.le_refl _)).more qb125.size; replace sY := (sY.below qb125 (Nat.le_refl _)).more qb125.size; replace kD := kD.below qb125 kD.lt; replace sP1 := (sP1.below qb125 (Nat.le_refl _)).more qb125.size; replace kP := kP.below qb125 kP.lt; replace sP2 := (sP2.below qb125 (Nat.le_refl _)).more qb125.size; replace sR2 := (sR2.below qb125 (Nat.le_refl _)).more qb125.size; replace kQ := kQ.below qb125 kQ.lt; replace HBW := below_on HBW qb125 (Nat.le_refl _); clear b125 qb125; rw [M.out.2.2.2.2])
                    | (go_at_call 16; refine (specDecodeChunk_val _ cs _ ds _ T _ sC (Nat.le_refl _) (by omega) WC.out _ sD (Nat.le_refl _) (by omega) WD.out).mono ?_; rintro e w126 ⟨⟨y1, y2, rfl, z1, z2, _⟩, b126⟩; have qb126 : Below w125.heap.size w125 w126 := ⟨b126.os, b126.tape, b126.output, b126.size, b126.block⟩; replace T := T.on qb126; replace sC := (sC.below qb126 (Nat.le_refl _)).more qb126.size; replace sD := (sD.below qb126 (Nat.le_refl _)).more qb126.size; replace sX := (sX.below qb126 (Nat.le_refl _)).more qb126.size; replace sY := (sY.below qb126 (Nat.le_refl _)).more qb126.size; replace kD := kD.below qb126 kD.lt; replace sP1 := (sP1.below qb126 (Nat.le_refl _)).more qb126.size; replace kP := kP.below qb126 kP.lt; replace sP2 := (sP2.below qb126 (Nat.le_refl _)).more qb126.size; replace sR2 := (sR2.below qb126 (Nat.le_refl _)).more qb126.size; replace kQ := kQ.below qb126 kQ.lt; replace HBW := below_on HBW qb126 (Nat.le_refl _); clear b126 qb126; obtain ⟨B2, e2, rfl⟩ := z1.form; obtain ⟨B3, e3, rfl⟩ := z2.form; have sS := z1.sees; clear z1 z2)
                    | (go_at_call 18; refine (lwNums_see _ _ _ _ _ _ sX sS (by omega) (by omega)).mono ?_; rintro e w127 ⟨rfl, n127, hn127⟩; have b127 := below_drawn hn127; clear hn127; have qb127 : Below w126.heap.size w126 w127 := ⟨b127.os, b127.tape, b127.output, b127.size, b127.block⟩; replace T := T.on qb127; replace sC := (sC.below qb127 (Nat.le_refl _)).more qb127.size; replace sD := (sD.below qb127 (Nat.le_refl _)).more qb127.size; replace sX := (sX.below qb127 (Nat.le_refl _)).more qb127.size; replace sY := (sY.below qb127 (Nat.le_refl _)).more qb127.size; replace kD := kD.below qb127 kD.lt; replace sP1 := (sP1.below qb127 (Nat.le_refl _)).more qb127.size; replace kP := kP.below qb127 kP.lt; replace sP2 := (sP2.below qb127 (Nat.le_refl _)).more qb127.size; replace sR2 := (sR2.below qb127 (Nat.le_refl _)).more qb127.size; replace kQ := kQ.below qb127 kQ.lt; replace HBW := below_on HBW qb127 (Nat.le_refl _); clear b127 qb127)
                    )
                  go_wp2
                  go_ret
                  exact ⟨rfl, HBW⟩
                · replace bW := ((bW.setCell (p := ⟨wE.heap.size, 0, none⟩) (by simp) (.int .i64 0)).setCell (p := ⟨wE.heap.size, 1, none⟩) (by simp) (.slice A16 t2.length c16)).setCell (p := ⟨wE.heap.size, 2, none⟩) (by simp) (.slice A17 (chunkR cs ds).length c17)
                  have kQ := ((kZ.set 0 (.int .i64 0)).set 1 (.slice A16 t2.length c16)).set 2 (.slice A17 (chunkR cs ds).length c17)
                  replace kP := ((kP.far2 ⟨wE.heap.size, 0, none⟩ (.int .i64 0) (Nat.ne_of_gt hEP)).far2 ⟨wE.heap.size, 1, none⟩ (.slice A16 t2.length c16) (Nat.ne_of_gt hEP)).far2 ⟨wE.heap.size, 2, none⟩ (.slice A17 (chunkR cs ds).length c17) (Nat.ne_of_gt hEP)
                  have sP2 := (((o1.set ⟨wE.heap.size, 0, none⟩ (.int .i64 0) (.inl (by simp))).set ⟨wE.heap.size, 1, none⟩ (.slice A16 t2.length c16) (.inl (by simp))).set ⟨wE.heap.size, 2, none⟩ (.slice A17 (chunkR cs ds).length c17) (.inl (by simp))).sees
                  have sR2 := (((o2.set ⟨wE.heap.size, 0, none⟩ (.int .i64 0) (.inl (by simp))).set ⟨wE.heap.size, 1, none⟩ (.slice A16 t2.length c16) (.inl (by simp))).set ⟨wE.heap.size, 2, none⟩ (.slice A17 (chunkR cs ds).length c17) (.inl (by simp))).sees
                  have hsz : wF.heap.size ≤ (((wF.setCell ⟨wE.heap.size, 0, none⟩ (.int .i64 0)).setCell ⟨wE.heap.size, 1, none⟩ (.slice A16 t2.length c16)).setCell ⟨wE.heap.size, 2, none⟩ (.slice A17 (chunkR cs ds).length c17)).heap.size := by simp [World.setCell]
                  replace sP2 := sP2.more hsz
                  replace sR2 := sR2.more hsz
                  clear hsz
                  clear o1 o2 kZ z0 z1 z2 y0 y1 y2
                  replace R := R.on bW
                  replace T := T.on bW
                  replace sT := (sT.below bW (Nat.le_refl _)).more bW.size
                  replace sE := (sE.below bW (Nat.le_refl _)).more bW.size
                  replace kE := kE.below bW kE.lt
                  replace sC := (sC.below bW (Nat.le_refl _)).more bW.size
                  replace sD := (sD.below bW (Nat.le_refl _)).more bW.size
                  replace sX := (sX.below bW (Nat.le_refl _)).more bW.size
                  replace sY := (sY.below bW (Nat.le_refl _)).more bW.size
                  replace kD := kD.below bW kD.lt
                  replace sD1 := (sD1.below bW (Nat.le_refl _)).more bW.size
                  replace sD2 := (sD2.below bW (Nat.le_refl _)).more bW.size
                  replace sP1 := (sP1.below bW (Nat.le_refl _)).more bW.size
                  replace sR1 := (sR1.below bW (Nat.le_refl _)).more bW.size
                  replace HBW := below_on HBW bW (Nat.le_refl _)
                  clear bW
                  go_wp2_with fail
                  generalize hgI : ((wF.setCell ⟨wE.heap.size, 0, none⟩ (.int .i64 0)).setCell ⟨wE.heap.size, 1, none⟩ (.slice A16 t2.length c16)).setCell ⟨wE.heap.size, 2, none⟩ (.slice A17 (chunkR cs ds).length c17) = wG at *
                  clear hgI
                  clear R sT sE kE sD1 sD2 sR1
                  obtain ⟨i0, hi, hz0, hz1, hz2⟩ := info_parts info_int64
                  have YB := Lib.hid (wf_bytes (chunkR_bytes (bytes_of WC.out) (bytes_of WD.out)))
                  have yl := chunk_len cs ds
                  have bz4 : Below wG.heap.size wG wG.drew := ⟨rfl, rfl, rfl, Nat.le_refl _, fun _ _ => rfl⟩
                  replace T := T.on bz4
                  replace sC := (sC.below bz4 (Nat.le_refl _)).more bz4.size
                  replace sD := (sD.below bz4 (Nat.le_refl _)).more bz4.size
                  replace sX := (sX.below bz4 (Nat.le_refl _)).more bz4.size
                  replace sY := (sY.below bz4 (Nat.le_refl _)).more bz4.size
                  replace kD := kD.below bz4 kD.lt
                  replace sP1 := (sP1.below bz4 (Nat.le_refl _)).more bz4.size
                  replace sP2 := (sP2.below bz4 (Nat.le_refl _)).more bz4.size
                  replace sR2 := (sR2.below bz4 (Nat.le_refl _)).more bz4.size
                  replace kP := kP.below bz4 kP.lt
                  replace kQ := kQ.below bz4 kQ.lt
                  replace HBW := below_on HBW bz4 (Nat.le_refl _)
                  clear bz4
                  go_region_held3 (fun w' => w'.cell? ⟨wD.heap.size, 0, none⟩ = some (.int .i64 0) ∧ w'.cell? ⟨wE.heap.size, 0, none⟩ = some (.int .i64 0) ∧ w'.cell? ⟨wD.heap.size, 1, none⟩ = some (.slice A14 t1.length c14) ∧ w'.cell? ⟨wE.heap.size, 1, none⟩ = some (.slice A16 t2.length c16) ∧ w'.cell? ⟨w5.heap.size, 1, none⟩ = some (.slice A5 (chunkT cs ds).length c5) ∧ w'.cell? ⟨wE.heap.size, 2, none⟩ = some (.slice A17 (chunkR cs ds).length c17) ∧ w'.cell? ⟨w5.heap.size, 2, none⟩ = some (.slice A6 (chunkR cs ds).length c6)) (first | exact ⟨kP.cell 0 rfl, kQ.cell 0 rfl, kP.cell 1 rfl, kQ.cell 1 rfl, kD.cell 1 rfl, kQ.cell 2 rfl, kD.cell 2 rfl⟩ | exact ⟨(kP.alloc _).cell 0 rfl, (kQ.alloc _).cell 0 rfl, (kP.alloc _).cell 1 rfl, (kQ.alloc _).cell 1 rfl, (kD.alloc _).cell 1 rfl, (kQ.alloc _).cell 2 rfl, (kD.alloc _).cell 2 rfl⟩ | exact ⟨(kP.below bH kP.lt).cell 0 rfl, (kQ.below bH kQ.lt).cell 0 rfl, (kP.below bH kP.lt).cell 1 rfl, (kQ.below bH kQ.lt).cell 1 rfl, (kD.below bH kD.lt).cell 1 rfl, (kQ.below bH kQ.lt).cell 2 rfl, (kD.below bH kD.lt).cell 2 rfl⟩) (first
                    | (have bB := (Below.refl wG.drew.heap.size wG.drew).alloc (Nat.le_refl _) (.cells #[] 2); refine step_app (by rfl) _ _ _ rfl wG.drew.heap.size Tryd.underlying24 hi hz0 hz1 hz2 rfl (by omega) rfl (own_empty wG.drew 2) rfl (sP1.below bB (Nat.le_refl _)).rd (by rw [nums_length, Nat.mul_one]) (nums_one _ _) (by omega) (by omega) bB.size ?_; intro v5 wH o5 g5 a5; obtain ⟨A21, c21, rfl⟩ := own_form o5; rw [Nat.zero_add, List.nil_append] at o5; rw [Nat.zero_add]; have bH := bB.grown g5 bB.size (fun b hb => ((own_empty wG.drew 2).lt b hb).1); clear bB g5 a5)
                    | (refine step_app (by rfl) _ _ _ rfl wG.drew.heap.size Tryd.underlying24 hi hz0 hz1 hz2 rfl (by omega) rfl o5 rfl (sP2.below bH (Nat.le_refl _)).rd (by rw [nums_length, Nat.mul_one]) (nums_one _ _) (by omega) (by omega) bH.size ?_; intro v6 wI o6 g6 a6; obtain ⟨A22, c22, rfl⟩ := own_form o6; replace bH := bH.grown g6 bH.size (fun b hb => (o5.lt b hb).1); have sQ := own_app_sees o6 M.out.2.2.1; clear g6 a6 o5 o6; replace T := T.on bH; replace sC := (sC.below bH (Nat.le_refl _)).more bH.size; replace sD := (sD.below bH (Nat.le_refl _)).more bH.size; replace sX := (sX.below bH (Nat.le_refl _)).more bH.size; replace sY := (sY.below bH (Nat.le_refl _)).more bH.size; replace kD := kD.below bH kD.lt; replace sP1 := (sP1.below bH (Nat.le_refl _)).more bH.size; replace sP2 := (sP2.below bH (Nat.le_refl _)).more bH.size; replace sR2 := (sR2.below bH (Nat.le_refl _)).more bH.size; replace kP := kP.below bH kP.lt; replace kQ := kQ.below bH kQ.lt; replace HBW := below_on HBW bH (Nat.le_refl _); clear bH)
                    | (go_at_call 18; refine (lwNums_see _ _ _ _ _ _ sQ sX (by omega) (by omega)).mono ?_; rintro e w128 ⟨rfl, n128, hn128⟩; have b128 := below_drawn hn128; clear hn128; have qb128 : Below wI.heap.size wI w128 := ⟨b128.os, b128.tape, b128.output, b128.size, b128.block⟩; replace T := T.on qb128; replace sC := (sC.below qb128 (Nat.le_refl _)).more qb128.size; replace sD := (sD.below qb128 (Nat.le_refl _)).more qb128.size; replace sX := (sX.below qb128 (Nat.le_refl _)).more qb128.size; replace sY := (sY.below qb128 (Nat.le_refl _)).more qb128.size; replace kD := kD.below qb128 kD.lt; replace sP1 := (sP1.below qb128 (Nat.le_refl _)).more qb128.size; replace sP2 := (sP2.below qb128 (Nat.le_refl _)).more qb128.size; replace sR2 := (sR2.below qb128 (Nat.le_refl _)).more qb128.size; replace kP := kP.below qb128 kP.lt; replace kQ := kQ.below qb128 kQ.lt; replace sQ := (sQ.below qb128 (Nat.le_refl _)).more qb128.size; replace HBW := below_on HBW qb128 (Nat.le_refl _); clear b128 qb128; clear sQ)
                    | (go_at_call 27; refine (lwSame_any _ _ _ _ _ _ _ sR2.rd sY.rd).mono ?_; rintro e w129 ⟨rfl, b129⟩; have qb129 : Below w128.heap.size w128 w129 := ⟨b129.os, b129.tape, b129.output, b129.size, b129.block⟩; replace T := T.on qb129; replace sC := (sC.below qb129 (Nat.le_refl _)).more qb129.size; replace sD := (sD.below qb129 (Nat.le_refl _)).more qb129.size; replace sX := (sX.below qb129 (Nat.le_refl _)).more qb129.size; replace sY := (sY.below qb129 (Nat.le_refl _)).more qb129.size; replace kD := kD.below qb129 kD.lt; replace sP1 := (sP1.below qb129 (Nat.le_refl _)).more qb129.size; replace sP2 := (sP2.below qb129 (Nat.le_refl _)).more qb129.size; replace sR2 := (sR2.below qb129 (Nat.le_refl _)).more qb129.size; replace kP := kP.below qb129 kP.lt; replace kQ := kQ.below qb129 kQ.lt; replace HBW := below_on HBW qb129 (Nat.le_refl _); clear b129 qb129)
                    | (go_at_call 24; refine (carryFault_val _ (chunkR cs ds) _ T _ sY (Nat.le_refl _) (by omega) YB.out).mono ?_; rintro e w130 ⟨rfl, b130⟩; have qb130 : Below w129.heap.size w129 w130 := ⟨b130.os, b130.tape, b130.output, b130.size, b130.block⟩; replace T := T.on qb130; replace sC := (sC.below qb130 (Nat.le_refl _)).more qb130.size; replace sD := (sD.below qb130 (Nat.le_refl _)).more qb130.size; replace sX := (sX.below qb130 (Nat.le_refl _)).more qb130.size; replace sY := (sY.below qb130 (Nat.le_refl _)).more qb130.size; replace kD := kD.below qb130 kD.lt; replace sP1 := (sP1.below qb130 (Nat.le_refl _)).more qb130.size; replace sP2 := (sP2.below qb130 (Nat.le_refl _)).more qb130.size; replace sR2 := (sR2.below qb130 (Nat.le_refl _)).more qb130.size; replace kP := kP.below qb130 kP.lt; replace kQ := kQ.below qb130 kQ.lt; replace HBW := below_on HBW qb130 (Nat.le_refl _); clear b130 qb130; rw [M.out.2.2.2.2])
                    | (go_at_call 16; refine (specDecodeChunk_val _ cs _ ds _ T _ sC (Nat.le_refl _) (by omega) WC.out _ sD (Nat.le_refl _) (by omega) WD.out).mono ?_; rintro e w131 ⟨⟨y1, y2, rfl, z1, z2, _⟩, b131⟩; have qb131 : Below w130.heap.size w130 w131 := ⟨b131.os, b131.tape, b131.output, b131.size, b131.block⟩; replace T := T.on qb131; replace sC := (sC.below qb131 (Nat.le_refl _)).more qb131.size; replace sD := (sD.below qb131 (Nat.le_refl _)).more qb131.size; replace sX := (sX.below qb131 (Nat.le_refl _)).more qb131.size; replace sY := (sY.below qb131 (Nat.le_refl _)).more qb131.size; replace kD := kD.below qb131 kD.lt; replace sP1 := (sP1.below qb131 (Nat.le_refl _)).more qb131.size; replace sP2 := (sP2.below qb131 (Nat.le_refl _)).more qb131.size; replace sR2 := (sR2.below qb131 (Nat.le_refl _)).more qb131.size; replace kP := kP.below qb131 kP.lt; replace kQ := kQ.below qb131 kQ.lt; replace HBW := below_on HBW qb131 (Nat.le_refl _); clear b131 qb131; obtain ⟨B2, e2, rfl⟩ := z1.form; obtain ⟨B3, e3, rfl⟩ := z2.form; have sS := z1.sees; clear z1 z2)
                    | (go_at_call 18; refine (lwNums_see _ _ _ _ _ _ sX sS (by omega) (by omega)).mono ?_; rintro e w132 ⟨rfl, n132, hn132⟩; have b132 := below_drawn hn132; clear hn132; have qb132 : Below w131.heap.size w131 w132 := ⟨b132.os, b132.tape, b132.output, b132.size, b132.block⟩; replace T := T.on qb132; replace sC := (sC.below qb132 (Nat.le_refl _)).more qb132.size; replace sD := (sD.below qb132 (Nat.le_refl _)).more qb132.size; replace sX := (sX.below qb132 (Nat.le_refl _)).more qb132.size; replace sY := (sY.below qb132 (Nat.le_refl _)).more qb132.size; replace kD := kD.below qb132 kD.lt; replace sP1 := (sP1.below qb132 (Nat.le_refl _)).more qb132.size; replace sP2 := (sP2.below qb132 (Nat.le_refl _)).more qb132.size; replace sR2 := (sR2.below qb132 (Nat.le_refl _)).more qb132.size; replace kP := kP.below qb132 kP.lt; replace kQ := kQ.below qb132 kQ.lt; replace HBW := below_on HBW qb132 (Nat.le_refl _); clear b132 qb132)
                    )
                  go_wp2
                  go_ret
                  exact ⟨rfl, HBW⟩
              · have g0 : (chunkC cs ds != 0) = true := by simpa using d0
                clear d0
                go_wp2
                go_ret
                exact ⟨rfl, HBW⟩
        · have f0 : ((encode ts).1 == 0) = false := beq_eq_false_iff_ne.2 e0
          clear e0
          as_aux_lemma =>
            have cd0 := kD.cell 0 (u := .int .i64 (chunkC cs ds)) rfl
            by_cases d0 : chunkC cs ds = 0
            · have g0 : (chunkC cs ds != 0) = false := by simp [d0]
              have HM := Lib.hid (fun k => cut_math k (bytes_of WC.out) (bytes_of WD.out) d0)
              clear d0
              go_wp2_with fail
              refine (lwAt_any A c zs ((ds.length : Int) + 1) wr R HB.out zl (by omega)).mono ?_
              rintro e wC ⟨⟨x, rfl, x0, x1⟩, bC⟩
              obtain ⟨k, rfl⟩ : ∃ k : Nat, x = (k : Int) := ⟨x.toNat, by omega⟩
              have kd : k ≤ ds.length := by omega
              have kc : k ≤ c4 := by have := cD.1; omega
              have cD1 := cD.1
              replace R := R.on bC
              replace T := T.on bC
              replace sT := (sT.below bC (Nat.le_refl _)).more bC.size
              replace sE := (sE.below bC (Nat.le_refl _)).more bC.size
              replace kE := kE.below bC kE.lt
              replace sC := (sC.below bC (Nat.le_refl _)).more bC.size
              replace sD := (sD.below bC (Nat.le_refl _)).more bC.size
              replace sX := (sX.below bC (Nat.le_refl _)).more bC.size
              replace sY := (sY.below bC (Nat.le_refl _)).more bC.size
              replace kD := kD.below bC kD.lt
              replace HBW := below_on HBW bC (Nat.le_refl _)
              clear x0 x1 bC cd0
              have M := Lib.hid (HM.out k)
              have sD1 := sD.hi k kd
              have sD2 := sD.lo k rfl cD1
              have WP1 := Lib.hid (fun n (h : n ∈ ds.take k) => WD.out n (List.mem_of_mem_take h))
              have WP2 := Lib.hid (fun n (h : n ∈ ds.drop k) => WD.out n (List.mem_of_mem_drop h))
              have lp1 : (ds.take k).length ≤ ds.length := by rw [List.length_take]; omega
              have lp2 : (ds.drop k).length ≤ ds.length := by rw [List.length_drop]; omega
              obtain ⟨p1, hp1⟩ : ∃ p1, Hid (ds.take k = p1) := ⟨_, Lib.hid rfl⟩
              obtain ⟨p2, hp2⟩ : ∃ p2, Hid (ds.drop k = p2) := ⟨_, Lib.hid rfl⟩
              rw [hp1.out] at sD1 WP1 lp1 M
              rw [hp2.out] at sD2 WP2 lp2 M
              clear hp1 hp2
              have L1 := chunk_len cs p1
              have L2 := chunk_len (chunkR cs p1) p2
              obtain ⟨t1, ht1⟩ : ∃ t1, Hid (chunkT cs p1 = t1) := ⟨_, Lib.hid rfl⟩
              obtain ⟨r1, hr1⟩ : ∃ r1, Hid (chunkR cs p1 = r1) := ⟨_, Lib.hid rfl⟩
              obtain ⟨t2, ht2⟩ : ∃ t2, Hid (chunkT r1 p2 = t2) := ⟨_, Lib.hid rfl⟩
              have RB := Lib.hid (wf_bytes (chunkR_bytes (bytes_of WC.out) (bytes_of WP1.out)))
              rw [ht1.out, hr1.out] at L1 M
              rw [hr1.out] at L2 RB
              rw [ht2.out] at L2 M
              obtain ⟨q1, q2, q3, q4⟩ : t1.length < 5000 ∧ r1.length < 5000 ∧ t2.length < 10000 ∧ (chunkT cs ds).length < 10000 := by have := chunk_len cs ds; omega
              clear L1 L2
              go_wp2_with fail
              refine (decodeChunk_val _ cs _ p1 wC T wC.heap.size sC (Nat.le_refl _) (by omega) WC.out wC.heap.size sD1 (Nat.le_refl _) (by omega) WP1.out).mono ?_
              rintro e wD ⟨⟨u1, u2, rfl, o1, o2, _⟩, bD⟩
              rw [M.out.1]
              rw [ht1.out] at o1
              rw [hr1.out] at o2
              obtain ⟨A14, c14, rfl⟩ := o1.form
              obtain ⟨A15, c15, rfl⟩ := o2.form
              have sP1 := o1.sees
              have sR1 := o2.sees
              clear o1 o2
              replace R := R.on bD
              replace T := T.on bD
              replace sT := (sT.below bD (Nat.le_refl _)).more bD.size
              replace sE := (sE.below bD (Nat.le_refl _)).more bD.size
              replace kE := kE.below bD kE.lt
              replace sC := (sC.below bD (Nat.le_refl _)).more bD.size
              replace sD := (sD.below bD (Nat.le_refl _)).more bD.size
              replace sX := (sX.below bD (Nat.le_refl _)).more bD.size
              replace sY := (sY.below bD (Nat.le_refl _)).more bD.size
              replace kD := kD.below bD kD.lt
              replace sD1 := (sD1.below bD (Nat.le_refl _)).more bD.size
              replace sD2 := (sD2.below bD (Nat.le_refl _)).more bD.size
              replace HBW := below_on HBW bD (Nat.le_refl _)
              clear bD
              have bE := (Below.refl wD.heap.size wD).alloc (Nat.le_refl _) (.cells #[.int .i64 0, .slice A14 t1.length c14, .slice A15 r1.length c15] 32)
              have kP := Blk.new wD 32 #[.int .i64 0, .slice A14 t1.length c14, .slice A15 r1.length c15]
              replace R := R.on bE
              replace T := T.on bE
              replace sT := (sT.below bE (Nat.le_refl _)).more bE.size
              replace sE := (sE.below bE (Nat.le_refl _)).more bE.size
              replace kE := kE.below bE kE.lt
              replace sC := (sC.below bE (Nat.le_refl _)).more bE.size
              replace sD := (sD.below bE (Nat.le_refl _)).more bE.size
              replace sX := (sX.below bE (Nat.le_refl _)).more bE.size
              replace sY := (sY.below bE (Nat.le_refl _)).more bE.size
              replace kD := kD.below bE kD.lt
              replace sD1 := (sD1.below bE (Nat.le_refl _)).more bE.size
              replace sD2 := (sD2.below bE (Nat.le_refl _)).more bE.size
              replace sP1 := (sP1.below bE (Nat.le_refl _)).more bE.size
              replace sR1 := (sR1.below bE (Nat.le_refl _)).more bE.size
              replace HBW := below_on HBW bE (Nat.le_refl _)
              clear bE
              go_wp2_with fail
              generalize hgE : wD.alloc (.cells #[.int .i64 0, .slice A14 t1.length c14, .slice A15 r1.length c15] 32) = wE at *
              clear hgE
              have bz3 : Below wE.heap.size wE wE.drew := ⟨rfl, rfl, rfl, Nat.le_refl _, fun _ _ => rfl⟩
              replace R := R.on bz3
              replace T := T.on bz3
              replace sT := (sT.below bz3 (Nat.le_refl _)).more bz3.size
              replace sE := (sE.below bz3 (Nat.le_refl _)).more bz3.size
              replace kE := kE.below bz3 kE.lt
              replace sC := (sC.below bz3 (Nat.le_refl _)).more bz3.size
              replace sD := (sD.below bz3 (Nat.le_refl _)).more bz3.size
              replace sX := (sX.below bz3 (Nat.le_refl _)).more bz3.size
              replace sY := (sY.below bz3 (Nat.le_refl _)).more bz3.size
              replace kD := kD.below bz3 kD.lt
              replace sD1 := (sD1.below bz3 (Nat.le_refl _)).more bz3.size
              replace sD2 := (sD2.below bz3 (Nat.le_refl _)).more bz3.size
              replace sP1 := (sP1.below bz3 (Nat.le_refl _)).more bz3.size
              replace sR1 := (sR1.below bz3 (Nat.le_refl _)).more bz3.size
              replace kP := kP.below bz3 kP.lt
              replace HBW := below_on HBW bz3 (Nat.le_refl _)
              clear bz3
              have hEP : wD.heap.size < wE.heap.size := kP.lt
              go_region_held3 (fun w' => w'.cell? ⟨wD.heap.size, 2, none⟩ = some (.slice A15 r1.length c15)) (first | exact kP.cell 2 rfl | exact (kP.alloc _).cell 2 rfl | exact (((kP.far2 _ _ (Nat.ne_of_gt hEP)).far2 _ _ (Nat.ne_of_gt hEP)).far2 _ _ (Nat.ne_of_gt hEP)).cell 2 rfl) (first
                | (go_at_call 8; rw [loA_fold]; refine (decodeChunk_val _ r1 _ p2 _ T _ sR1 (Nat.le_refl _) (by omega) RB.out _ sD2 (Nat.le_refl _) (by omega) WP2.out).mono ?_; rintro e wF ⟨⟨u1, u2, rfl, o1, o2, _⟩, bF⟩; rw [M.out.2.1]; rw [ht2.out] at o1; rw [M.out.2.2.2.1] at o2; have qF : Below wE.drew.heap.size wE.drew wF := ⟨bF.os, bF.tape, bF.output, bF.size, bF.block⟩; obtain ⟨A16, c16, rfl⟩ := o1.form; obtain ⟨A17, c17, rfl⟩ := o2.form; have sP2 := o1.sees; have sR2 := o2.sees; clear o1 o2; replace R := R.on qF; replace T := T.on qF; replace sT := (sT.below qF (Nat.le_refl _)).more qF.size; replace sE := (sE.below qF (Nat.le_refl _)).more qF.size; replace kE := kE.below qF kE.lt; replace sC := (sC.below qF (Nat.le_refl _)).more qF.size; replace sD := (sD.below qF (Nat.le_refl _)).more qF.size; replace sX := (sX.below qF (Nat.le_refl _)).more qF.size; replace sY := (sY.below qF (Nat.le_refl _)).more qF.size; replace kD := kD.below qF kD.lt; replace sD1 := (sD1.below qF (Nat.le_refl _)).more qF.size; replace sD2 := (sD2.below qF (Nat.le_refl _)).more qF.size; replace sP1 := (sP1.below qF (Nat.le_refl _)).more qF.size; replace sR1 := (sR1.below qF (Nat.le_refl _)).more qF.size; replace kP := kP.below qF kP.lt; replace HBW := below_on HBW qF (Nat.le_refl _); clear bF qF)
                | (go_at_call 8; rw [loA_fold]; have bG := (Below.refl wE.drew.heap.size wE.drew).alloc (Nat.le_refl _) (.cells #[.int .i64 0, .slice none 0 0, .slice none 0 0] 32); have kZ : Blk (wE.drew.alloc (.cells #[.int .i64 0, .slice none 0 0, .slice none 0 0] 32)) wE.heap.size 32 #[.int .i64 0, .slice none 0 0, .slice none 0 0] := Blk.new wE.drew 32 _; have o0 := id T; have o1b := id sR1; have o2b := id sD2; replace T := T.on bG; replace sR1 := (sR1.below bG (Nat.le_refl _)).more bG.size; replace sD2 := (sD2.below bG (Nat.le_refl _)).more bG.size; refine (decodeChunk_val _ r1 _ p2 _ T _ sR1 (Nat.le_refl _) (by omega) RB.out _ sD2 (Nat.le_refl _) (by omega) WP2.out).mono ?_; rintro e wF ⟨⟨u1, u2, rfl, o1, o2, _⟩, bF⟩; rw [M.out.2.1]; rw [ht2.out] at o1; rw [M.out.2.2.2.1] at o2; replace T := o0; replace sR1 := o1b; replace sD2 := o2b; obtain ⟨A16, c16, rfl⟩ := o1.form; obtain ⟨A17, c17, rfl⟩ := o2.form; replace kP := kP.below (below_on bG bF (Nat.le_refl _)) kP.lt; replace kZ := kZ.below bF kZ.lt; have z0 := kZ.cell 0 rfl; have z1 := kZ.cell 1 rfl; have z2 := kZ.cell 2 rfl; have y0 := kZ.frozen 0; have y1 := kZ.frozen 1; have y2 := kZ.frozen 2; have bW := below_on bG bF (Nat.le_refl _); clear bF bG)
                )
              · have bI := (Below.refl wF.heap.size wF).alloc (Nat.le_refl _) (.cells #[.int .i64 0, .slice A16 t2.length c16, .slice A17 (chunkR cs ds).length c17] 32)
                have kQ := Blk.new wF 32 #[.int .i64 0, .slice A16 t2.length c16, .slice A17 (chunkR cs ds).length c17]
                replace R := R.on bI
                replace T := T.on bI
                replace sT := (sT.below bI (Nat.le_refl _)).more bI.size
                replace sE := (sE.below bI (Nat.le_refl _)).more bI.size
                replace kE := kE.below bI kE.lt
                replace sC := (sC.below bI (Nat.le_refl _)).more bI.size
                replace sD := (sD.below bI (Nat.le_refl _)).more bI.size
                replace sX := (sX.below bI (Nat.le_refl _)).more bI.size
                replace sY := (sY.below bI (Nat.le_refl _)).more bI.size
                replace kD := kD.below bI kD.lt
                replace sD1 := (sD1.below bI (Nat.le_refl _)).more bI.size
                replace sD2 := (sD2.below bI (Nat.le_refl _)).more bI.size
                replace sP1 := (sP1.below bI (Nat.le_refl _)).more bI.size
                replace sR1 := (sR1.below bI (Nat.le_refl _)).more bI.size
                replace kP := kP.below bI kP.lt
                replace sP2 := (sP2.below bI (Nat.le_refl _)).more bI.size
                replace sR2 := (sR2.below bI (Nat.le_refl _)).more bI.size
                replace HBW := below_on HBW bI (Nat.le_refl _)
                clear bI
                go_wp2_with fail
                generalize hgI : wF.alloc (.cells #[.int .i64 0, .slice A16 t2.length c16, .slice A17 (chunkR cs ds).length c17] 32) = wG at *
                clear hgI
                clear R sT sE kE sD1 sD2 sR1
                obtain ⟨i0, hi, hz0, hz1, hz2⟩ := info_parts info_int64
                have YB := Lib.hid (wf_bytes (chunkR_bytes (bytes_of WC.out) (bytes_of WD.out)))
                have yl := chunk_len cs ds
                have bz4 : Below wG.heap.size wG wG.drew := ⟨rfl, rfl, rfl, Nat.le_refl _, fun _ _ => rfl⟩
                replace T := T.on bz4
                replace sC := (sC.below bz4 (Nat.le_refl _)).more bz4.size
                replace sD := (sD.below bz4 (Nat.le_refl _)).more bz4.size
                replace sX := (sX.below bz4 (Nat.le_refl _)).more bz4.size
                replace sY := (sY.below bz4 (Nat.le_refl _)).more bz4.size
                replace kD := kD.below bz4 kD.lt
                replace sP1 := (sP1.below bz4 (Nat.le_refl _)).more bz4.size
                replace kP := kP.below bz4 kP.lt
                replace sP2 := (sP2.below bz4 (Nat.le_refl _)).more bz4.size
                replace sR2 := (sR2.below bz4 (Nat.le_refl _)).more bz4.size
                replace kQ := kQ.below bz4 kQ.lt
                replace HBW := below_on HBW bz4 (Nat.le_refl _)
                clear bz4
                go_region_held3 (fun w' => w'.cell? ⟨wD.heap.size, 0, none⟩ = some (.int .i64 0) ∧ w'.cell? ⟨wF.heap.size, 0, none⟩ = some (.int .i64 0) ∧ w'.cell? ⟨wD.heap.size, 1, none⟩ = some (.slice A14 t1.length c14) ∧ w'.cell? ⟨wF.heap.size, 1, none⟩ = some (.slice A16 t2.length c16) ∧ w'.cell? ⟨w5.heap.size, 1, none⟩ = some (.slice A5 (chunkT cs ds).length c5) ∧ w'.cell? ⟨wF.heap.size, 2, none⟩ = some (.slice A17 (chunkR cs ds).length c17) ∧ w'.cell? ⟨w5.heap.size, 2, none⟩ = some (.slice A6 (chunkR cs ds).length c6)) (first | exact ⟨kP.cell 0 rfl, kQ.cell 0 rfl, kP.cell 1 rfl, kQ.cell 1 rfl, kD.cell 1 rfl, kQ.cell 2 rfl, kD.cell 2 rfl⟩ | exact ⟨(kP.alloc _).cell 0 rfl, (kQ.alloc _).cell 0 rfl, (kP.alloc _).cell 1 rfl, (kQ.alloc _).cell 1 rfl, (kD.alloc _).cell 1 rfl, (kQ.alloc _).cell 2 rfl, (kD.alloc _).cell 2 rfl⟩ | exact ⟨(kP.below bH kP.lt).cell 0 rfl, (kQ.below bH kQ.lt).cell 0 rfl, (kP.below bH kP.lt).cell 1 rfl, (kQ.below bH kQ.lt).cell 1 rfl, (kD.below bH kD.lt).cell 1 rfl, (kQ.below bH kQ.lt).cell 2 rfl, (kD.below bH kD.lt).cell 2 rfl⟩) (first
                  | (have bB := (Below.refl wG.drew.heap.size wG.drew).alloc (Nat.le_refl _) (.cells #[] 2); refine step_app (by rfl) _ _ _ rfl wG.drew.heap.size Tryd.underlying24 hi hz0 hz1 hz2 rfl (by omega) rfl (own_empty wG.drew 2) rfl (sP1.below bB (Nat.le_refl _)).rd (by rw [nums_length, Nat.mul_one]) (nums_one _ _) (by omega) (by omega) bB.size ?_; intro v5 wH o5 g5 a5; obtain ⟨A21, c21, rfl⟩ := own_form o5; rw [Nat.zero_add, List.nil_append] at o5; rw [Nat.zero_add]; have bH := bB.grown g5 bB.size (fun b hb => ((own_empty wG.drew 2).lt b hb).1); clear bB g5 a5)
                  | (refine step_app (by rfl) _ _ _ rfl wG.drew.heap.size Tryd.underlying24 hi hz0 hz1 hz2 rfl (by omega) rfl o5 rfl (sP2.below bH (Nat.le_refl _)).rd (by rw [nums_length, Nat.mul_one]) (nums_one _ _) (by omega) (by omega) bH.size ?_; intro v6 wI o6 g6 a6; obtain ⟨A22, c22, rfl⟩ := own_form o6; replace bH := bH.grown g6 bH.size (fun b hb => (o5.lt b hb).1); have sQ := own_app_sees o6 M.out.2.2.1; clear g6 a6 o5 o6; replace T := T.on bH; replace sC := (sC.below bH (Nat.le_refl _)).more bH.size; replace sD := (sD.below bH (Nat.le_refl _)).more bH.size; replace sX := (sX.below bH (Nat.le_refl _)).more bH.size; replace sY := (sY.below bH (Nat.le_refl _)).more bH.size; replace kD := kD.below bH kD.lt; replace sP1 := (sP1.below bH (Nat.le_refl _)).more bH.size; replace kP := kP.below bH kP.lt; replace sP2 := (sP2.below bH (Nat.le_refl _)).more bH.size; replace sR2 := (sR2.below bH (Nat.le_refl _)).more bH.size; replace kQ := kQ.below bH kQ.lt; replace HBW := below_on HBW bH (Nat.le_refl _); clear bH)
                  | (go_at_call 18; refine (lwNums_see _ _ _ _ _ _ sQ sX (by omega) (by omega)).mono ?_; rintro e w133 ⟨rfl, n133, hn133⟩; have b133 := below_drawn hn133; clear hn133; have qb133 : Below wI.heap.size wI w133 := ⟨b133.os, b133.tape, b133.output, b133.size, b133.block⟩; replace T := T.on qb133; replace sC := (sC.below qb133 (Nat.le_refl _)).more qb133.size; replace sD := (sD.below qb133 (Nat.le_refl _)).more qb133.size; replace sX := (sX.below qb133 (Nat.le_refl _)).more qb133.size; replace sY := (sY.below qb133 (Nat.le_refl _)).more qb133.size; replace kD := kD.below qb133 kD.lt; replace sP1 := (sP1.below qb133 (Nat.le_refl _)).more qb133.size; replace kP := kP.below qb133 kP.lt; replace sP2 := (sP2.below qb133 (Nat.le_refl _)).more qb133.size; replace sR2 := (sR2.below qb133 (Nat.le_refl _)).more qb133.size; replace kQ := kQ.below qb133 kQ.lt; replace sQ := (sQ.below qb133 (Nat.le_refl _)).more qb133.size; replace HBW := below_on HBW qb133 (Nat.le_refl _); clear b133 qb133; clear sQ)
                  | (go_at_call 27; refine (lwSame_any _ _ _ _ _ _ _ sR2.rd sY.rd).mono ?_; rintro e w134 ⟨rfl, b134⟩; have qb134 : Below w133.heap.size w133 w134 := ⟨b134.os, b134.tape, b134.output, b134.size, b134.block⟩; replace T := T.on qb134; replace sC := (sC.below qb134 (Nat.le_refl _)).more qb134.size; replace sD := (sD.below qb134 (Nat.le_refl _)).more qb134.size; replace sX := (sX.below qb134 (Nat.le_refl _)).more qb134.size; replace sY := (sY.below qb134 (Nat.le_refl _)).more qb134.size; replace kD := kD.below qb134 kD.lt; replace sP1 := (sP1.below qb134 (Nat.le_refl _)).more qb134.size; replace kP := kP.below qb134 kP.lt; replace sP2 := (sP2.below qb134 (Nat.le_refl _)).more qb134.size; replace sR2 := (sR2.below qb134 (Nat.le_refl _)).more qb134.size; replace kQ := kQ.below qb134 kQ.lt; replace HBW := below_on HBW qb134 (Nat.le_refl _); clear b134 qb134)
                  | (go_at_call 24; refine (carryFault_val _ (chunkR cs ds) _ T _ sY (Nat.le_refl _) (by omega) YB.out).mono ?_; rintro e w135 ⟨rfl, b135⟩; have qb135 : Below w134.heap.size w134 w135 := ⟨b135.os, b135.tape, b135.output, b135.size, b135.block⟩; replace T := T.on qb135; replace sC := (sC.below qb135 (Nat.le_refl _)).more qb135.size; replace sD := (sD.below qb135 (Nat.le_refl _)).more qb135.size; replace sX := (sX.below qb135 (Nat.le_refl _)).more qb135.size; replace sY := (sY.below qb135 (Nat.le_refl _)).more qb135.size; replace kD := kD.below qb135 kD.lt; replace sP1 := (sP1.below qb135 (Nat.le_refl _)).more qb135.size; replace kP := kP.below qb135 kP.lt; replace sP2 := (sP2.below qb135 (Nat.le_refl _)).more qb135.size; replace sR2 := (sR2.below qb135 (Nat.le_refl _)).more qb135.size; replace kQ := kQ.below qb135 kQ.lt; replace HBW := below_on HBW qb135 (Nat.le_refl _); clear b135 qb135; rw [M.out.2.2.2.2])
                  | (go_at_call 16; refine (specDecodeChunk_val _ cs _ ds _ T _ sC (Nat.le_refl _) (by omega) WC.out _ sD (Nat.le_refl _) (by omega) WD.out).mono ?_; rintro e w136 ⟨⟨y1, y2, rfl, z1, z2, _⟩, b136⟩; have qb136 : Below w135.heap.size w135 w136 := ⟨b136.os, b136.tape, b136.output, b136.size, b136.block⟩; replace T := T.on qb136; replace sC := (sC.below qb136 (Nat.le_refl _)).more qb136.size; replace sD := (sD.below qb136 (Nat.le_refl _)).more qb136.size; replace sX := (sX.below qb136 (Nat.le_refl _)).more qb136.size; replace sY := (sY.below qb136 (Nat.le_refl _)).more qb136.size; replace kD := kD.below qb136 kD.lt; replace sP1 := (sP1.below qb136 (Nat.le_refl _)).more qb136.size; replace kP := kP.below qb136 kP.lt; replace sP2 := (sP2.below qb136 (Nat.le_refl _)).more qb136.size; replace sR2 := (sR2.below qb136 (Nat.le_refl _)).more qb136.size; replace kQ := kQ.below qb136 kQ.lt; replace HBW := below_on HBW qb136 (Nat.le_refl _); clear b136 qb136; obtain ⟨B2, e2, rfl⟩ := z1.form; obtain ⟨B3, e3, rfl⟩ := z2.form; have sS := z1.sees; clear z1 z2)
                  | (go_at_call 18; refine (lwNums_see _ _ _ _ _ _ sX sS (by omega) (by omega)).mono ?_; rintro e w137 ⟨rfl, n137, hn137⟩; have b137 := below_drawn hn137; clear hn137; have qb137 : Below w136.heap.size w136 w137 := ⟨b137.os, b137.tape, b137.output, b137.size, b137.block⟩; replace T := T.on qb137; replace sC := (sC.below qb137 (Nat.le_refl _)).more qb137.size; replace sD := (sD.below qb137 (Nat.le_refl _)).more qb137.size; replace sX := (sX.below qb137 (Nat.le_refl _)).more qb137.size; replace sY := (sY.below qb137 (Nat.le_refl _)).more qb137.size; replace kD := kD.below qb137 kD.lt; replace sP1 := (sP1.below qb137 (Nat.le_refl _)).more qb137.size; replace kP := kP.below qb137 kP.lt; replace sP2 := (sP2.below qb137 (Nat.le_refl _)).more qb137.size; replace sR2 := (sR2.below qb137 (Nat.le_refl _)).more qb137.size; replace kQ := kQ.below qb137 kQ.lt; replace HBW := below_on HBW qb137 (Nat.le_refl _); clear b137 qb137)
                  )
                go_wp2
                go_ret
                exact ⟨rfl, HBW⟩
              · replace bW := ((bW.setCell (p := ⟨wE.heap.size, 0, none⟩) (by simp) (.int .i64 0)).setCell (p := ⟨wE.heap.size, 1, none⟩) (by simp) (.slice A16 t2.length c16)).setCell (p := ⟨wE.heap.size, 2, none⟩) (by simp) (.slice A17 (chunkR cs ds).length c17)
                have kQ := ((kZ.set 0 (.int .i64 0)).set 1 (.slice A16 t2.length c16)).set 2 (.slice A17 (chunkR cs ds).length c17)
                replace kP := ((kP.far2 ⟨wE.heap.size, 0, none⟩ (.int .i64 0) (Nat.ne_of_gt hEP)).far2 ⟨wE.heap.size, 1, none⟩ (.slice A16 t2.length c16) (Nat.ne_of_gt hEP)).far2 ⟨wE.heap.size, 2, none⟩ (.slice A17 (chunkR cs ds).length c17) (Nat.ne_of_gt hEP)
                have sP2 := (((o1.set ⟨wE.heap.size, 0, none⟩ (.int .i64 0) (.inl (by simp))).set ⟨wE.heap.size, 1, none⟩ (.slice A16 t2.length c16) (.inl (by simp))).set ⟨wE.heap.size, 2, none⟩ (.slice A17 (chunkR cs ds).length c17) (.inl (by simp))).sees
                have sR2 := (((o2.set ⟨wE.heap.size, 0, none⟩ (.int .i64 0) (.inl (by simp))).set ⟨wE.heap.size, 1, none⟩ (.slice A16 t2.length c16) (.inl (by simp))).set ⟨wE.heap.size, 2, none⟩ (.slice A17 (chunkR cs ds).length c17) (.inl (by simp))).sees
                have hsz : wF.heap.size ≤ (((wF.setCell ⟨wE.heap.size, 0, none⟩ (.int .i64 0)).setCell ⟨wE.heap.size, 1, none⟩ (.slice A16 t2.length c16)).setCell ⟨wE.heap.size, 2, none⟩ (.slice A17 (chunkR cs ds).length c17)).heap.size := by simp [World.setCell]
                replace sP2 := sP2.more hsz
                replace sR2 := sR2.more hsz
                clear hsz
                clear o1 o2 kZ z0 z1 z2 y0 y1 y2
                replace R := R.on bW
                replace T := T.on bW
                replace sT := (sT.below bW (Nat.le_refl _)).more bW.size
                replace sE := (sE.below bW (Nat.le_refl _)).more bW.size
                replace kE := kE.below bW kE.lt
                replace sC := (sC.below bW (Nat.le_refl _)).more bW.size
                replace sD := (sD.below bW (Nat.le_refl _)).more bW.size
                replace sX := (sX.below bW (Nat.le_refl _)).more bW.size
                replace sY := (sY.below bW (Nat.le_refl _)).more bW.size
                replace kD := kD.below bW kD.lt
                replace sD1 := (sD1.below bW (Nat.le_refl _)).more bW.size
                replace sD2 := (sD2.below bW (Nat.le_refl _)).more bW.size
                replace sP1 := (sP1.below bW (Nat.le_refl _)).more bW.size
                replace sR1 := (sR1.below bW (Nat.le_refl _)).more bW.size
                replace HBW := below_on HBW bW (Nat.le_refl _)
                clear bW
                go_wp2_with fail
                generalize hgI : ((wF.setCell ⟨wE.heap.size, 0, none⟩ (.int .i64 0)).setCell ⟨wE.heap.size, 1, none⟩ (.slice A16 t2.length c16)).setCell ⟨wE.heap.size, 2, none⟩ (.slice A17 (chunkR cs ds).length c17) = wG at *
                clear hgI
                clear R sT sE kE sD1 sD2 sR1
                obtain ⟨i0, hi, hz0, hz1, hz2⟩ := info_parts info_int64
                have YB := Lib.hid (wf_bytes (chunkR_bytes (bytes_of WC.out) (bytes_of WD.out)))
                have yl := chunk_len cs ds
                have bz4 : Below wG.heap.size wG wG.drew := ⟨rfl, rfl, rfl, Nat.le_refl _, fun _ _ => rfl⟩
                replace T := T.on bz4
                replace sC := (sC.below bz4 (Nat.le_refl _)).more bz4.size
                replace sD := (sD.below bz4 (Nat.le_refl _)).more bz4.size
                replace sX := (sX.below bz4 (Nat.le_refl _)).more bz4.size
                replace sY := (sY.below bz4 (Nat.le_refl _)).more bz4.size
                replace kD := kD.below bz4 kD.lt
                replace sP1 := (sP1.below bz4 (Nat.le_refl _)).more bz4.size
                replace sP2 := (sP2.below bz4 (Nat.le_refl _)).more bz4.size
                replace sR2 := (sR2.below bz4 (Nat.le_refl _)).more bz4.size
                replace kP := kP.below bz4 kP.lt
                replace kQ := kQ.below bz4 kQ.lt
                replace HBW := below_on HBW bz4 (Nat.le_refl _)
                clear bz4
                go_region_held3 (fun w' => w'.cell? ⟨wD.heap.size, 0, none⟩ = some (.int .i64 0) ∧ w'.cell? ⟨wE.heap.size, 0, none⟩ = some (.int .i64 0) ∧ w'.cell? ⟨wD.heap.size, 1, none⟩ = some (.slice A14 t1.length c14) ∧ w'.cell? ⟨wE.heap.size, 1, none⟩ = some (.slice A16 t2.length c16) ∧ w'.cell? ⟨w5.heap.size, 1, none⟩ = some (.slice A5 (chunkT cs ds).length c5) ∧ w'.cell? ⟨wE.heap.size, 2, none⟩ = some (.slice A17 (chunkR cs ds).length c17) ∧ w'.cell? ⟨w5.heap.size, 2, none⟩ = some (.slice A6 (chunkR cs ds).length c6)) (first | exact ⟨kP.cell 0 rfl, kQ.cell 0 rfl, kP.cell 1 rfl, kQ.cell 1 rfl, kD.cell 1 rfl, kQ.cell 2 rfl, kD.cell 2 rfl⟩ | exact ⟨(kP.alloc _).cell 0 rfl, (kQ.alloc _).cell 0 rfl, (kP.alloc _).cell 1 rfl, (kQ.alloc _).cell 1 rfl, (kD.alloc _).cell 1 rfl, (kQ.alloc _).cell 2 rfl, (kD.alloc _).cell 2 rfl⟩ | exact ⟨(kP.below bH kP.lt).cell 0 rfl, (kQ.below bH kQ.lt).cell 0 rfl, (kP.below bH kP.lt).cell 1 rfl, (kQ.below bH kQ.lt).cell 1 rfl, (kD.below bH kD.lt).cell 1 rfl, (kQ.below bH kQ.lt).cell 2 rfl, (kD.below bH kD.lt).cell 2 rfl⟩) (first
                  | (have bB := (Below.refl wG.drew.heap.size wG.drew).alloc (Nat.le_refl _) (.cells #[] 2); refine step_app (by rfl) _ _ _ rfl wG.drew.heap.size Tryd.underlying24 hi hz0 hz1 hz2 rfl (by omega) rfl (own_empty wG.drew 2) rfl (sP1.below bB (Nat.le_refl _)).rd (by rw [nums_length, Nat.mul_one]) (nums_one _ _) (by omega) (by omega) bB.size ?_; intro v5 wH o5 g5 a5; obtain ⟨A21, c21, rfl⟩ := own_form o5; rw [Nat.zero_add, List.nil_append] at o5; rw [Nat.zero_add]; have bH := bB.grown g5 bB.size (fun b hb => ((own_empty wG.drew 2).lt b hb).1); clear bB g5 a5)
                  | (refine step_app (by rfl) _ _ _ rfl wG.drew.heap.size Tryd.underlying24 hi hz0 hz1 hz2 rfl (by omega) rfl o5 rfl (sP2.below bH (Nat.le_refl _)).rd (by rw [nums_length, Nat.mul_one]) (nums_one _ _) (by omega) (by omega) bH.size ?_; intro v6 wI o6 g6 a6; obtain ⟨A22, c22, rfl⟩ := own_form o6; replace bH := bH.grown g6 bH.size (fun b hb => (o5.lt b hb).1); have sQ := own_app_sees o6 M.out.2.2.1; clear g6 a6 o5 o6; replace T := T.on bH; replace sC := (sC.below bH (Nat.le_refl _)).more bH.size; replace sD := (sD.below bH (Nat.le_refl _)).more bH.size; replace sX := (sX.below bH (Nat.le_refl _)).more bH.size; replace sY := (sY.below bH (Nat.le_refl _)).more bH.size; replace kD := kD.below bH kD.lt; replace sP1 := (sP1.below bH (Nat.le_refl _)).more bH.size; replace sP2 := (sP2.below bH (Nat.le_refl _)).more bH.size; replace sR2 := (sR2.below bH (Nat.le_refl _)).more bH.size; replace kP := kP.below bH kP.lt; replace kQ := kQ.below bH kQ.lt; replace HBW := below_on HBW bH (Nat.le_refl _); clear bH)
                  | (go_at_call 18; refine (lwNums_see _ _ _ _ _ _ sQ sX (by omega) (by omega)).mono ?_; rintro e w138 ⟨rfl, n138, hn138⟩; have b138 := below_drawn hn138; clear hn138; have qb138 : Below wI.heap.size wI w138 := ⟨b138.os, b138.tape, b138.output, b138.size, b138.block⟩; replace T := T.on qb138; replace sC := (sC.below qb138 (Nat.le_refl _)).more qb138.size; replace sD := (sD.below qb138 (Nat.le_refl _)).more qb138.size; replace sX := (sX.below qb138 (Nat.le_refl _)).more qb138.size; replace sY := (sY.below qb138 (Nat.le_refl _)).more qb138.size; replace kD := kD.below qb138 kD.lt; replace sP1 := (sP1.below qb138 (Nat.le_refl _)).more qb138.size; replace sP2 := (sP2.below qb138 (Nat.le_refl _)).more qb138.size; replace sR2 := (sR2.below qb138 (Nat.le_refl _)).more qb138.size; replace kP := kP.below qb138 kP.lt; replace kQ := kQ.below qb138 kQ.lt; replace sQ := (sQ.below qb138 (Nat.le_refl _)).more qb138.size; replace HBW := below_on HBW qb138 (Nat.le_refl _); clear b138 qb138; clear sQ)
                  | (go_at_call 27; refine (lwSame_any _ _ _ _ _ _ _ sR2.rd sY.rd).mono ?_; rintro e w139 ⟨rfl, b139⟩; have qb139 : Below w138.heap.size w138 w139 := ⟨b139.os, b139.tape, b139.output, b139.size, b139.block⟩; replace T := T.on qb139; replace sC := (sC.below qb139 (Nat.le_refl _)).more qb139.size; replace sD := (sD.below qb139 (Nat.le_refl _)).more qb139.size; replace sX := (sX.below qb139 (Nat.le_refl _)).more qb139.size; replace sY := (sY.below qb139 (Nat.le_refl _)).more qb139.size; replace kD := kD.below qb139 kD.lt; replace sP1 := (sP1.below qb139 (Nat.le_refl _)).more qb139.size; replace sP2 := (sP2.below qb139 (Nat.le_refl _)).more qb139.size; replace sR2 := (sR2.below qb139 (Nat.le_refl _)).more qb139.size; replace kP := kP.below qb139 kP.lt; replace kQ := kQ.below qb139 kQ.lt; replace HBW := below_on HBW qb139 (Nat.le_refl _); clear b139 qb139)
                  | (go_at_call 24; refine (carryFault_val _ (chunkR cs ds) _ T _ sY (Nat.le_refl _) (by omega) YB.out).mono ?_; rintro e w140 ⟨rfl, b140⟩; have qb140 : Below w139.heap.size w139 w140 := ⟨b140.os, b140.tape, b140.output, b140.size, b140.block⟩; replace T := T.on qb140; replace sC := (sC.below qb140 (Nat.le_refl _)).more qb140.size; replace sD := (sD.below qb140 (Nat.le_refl _)).more qb140.size; replace sX := (sX.below qb140 (Nat.le_refl _)).more qb140.size; replace sY := (sY.below qb140 (Nat.le_refl _)).more qb140.size; replace kD := kD.below qb140 kD.lt; replace sP1 := (sP1.below qb140 (Nat.le_refl _)).more qb140.size; replace sP2 := (sP2.below qb140 (Nat.le_refl _)).more qb140.size; replace sR2 := (sR2.below qb140 (Nat.le_refl _)).more qb140.size; replace kP := kP.below qb140 kP.lt; replace kQ := kQ.below qb140 kQ.lt; replace HBW := below_on HBW qb140 (Nat.le_refl _); clear b140 qb140; rw [M.out.2.2.2.2])
                  | (go_at_call 16; refine (specDecodeChunk_val _ cs _ ds _ T _ sC (Nat.le_refl _) (by omega) WC.out _ sD (Nat.le_refl _) (by omega) WD.out).mono ?_; rintro e w141 ⟨⟨y1, y2, rfl, z1, z2, _⟩, b141⟩; have qb141 : Below w140.heap.size w140 w141 := ⟨b141.os, b141.tape, b141.output, b141.size, b141.block⟩; replace T := T.on qb141; replace sC := (sC.below qb141 (Nat.le_refl _)).more qb141.size; replace sD := (sD.below qb141 (Nat.le_refl _)).more qb141.size; replace sX := (sX.below qb141 (Nat.le_refl _)).more qb141.size; replace sY := (sY.below qb141 (Nat.le_refl _)).more qb141.size; replace kD := kD.below qb141 kD.lt; replace sP1 := (sP1.below qb141 (Nat.le_refl _)).more qb141.size; replace sP2 := (sP2.below qb141 (Nat.le_refl _)).more qb141.size; replace sR2 := (sR2.below qb141 (Nat.le_refl _)).more qb141.size; replace kP := kP.below qb141 kP.lt; replace kQ := kQ.below qb141 kQ.lt; replace HBW := below_on HBW qb141 (Nat.le_refl _); clear b141 qb141; obtain ⟨B2, e2, rfl⟩ := z1.form; obtain ⟨B3, e3, rfl⟩ := z2.form; have sS := z1.sees; clear z1 z2)
                  | (go_at_call 18; refine (lwNums_see _ _ _ _ _ _ sX sS (by omega) (by omega)).mono ?_; rintro e w142 ⟨rfl, n142, hn142⟩; have b142 := below_drawn hn142; clear hn142; have qb142 : Below w141.heap.size w141 w142 := ⟨b142.os, b142.tape, b142.output, b142.size, b142.block⟩; replace T := T.on qb142; replace sC := (sC.below qb142 (Nat.le_refl _)).more qb142.size; replace sD := (sD.below qb142 (Nat.le_refl _)).more qb142.size; replace sX := (sX.below qb142 (Nat.le_refl _)).more qb142.size; replace sY := (sY.below qb142 (Nat.le_refl _)).more qb142.size; replace kD := kD.below qb142 kD.lt; replace sP1 := (sP1.below qb142 (Nat.le_refl _)).more qb142.size; replace sP2 := (sP2.below qb142 (Nat.le_refl _)).more qb142.size; replace sR2 := (sR2.below qb142 (Nat.le_refl _)).more qb142.size; replace kP := kP.below qb142 kP.lt; replace kQ := kQ.below qb142 kQ.lt; replace HBW := below_on HBW qb142 (Nat.le_refl _); clear b142 qb142)
                  )
                go_wp2
                go_ret
                exact ⟨rfl, HBW⟩
            · have g0 : (chunkC cs ds != 0) = true := by simpa using d0
              clear d0
              go_wp2
              go_ret
              exact ⟨rfl, HBW⟩
end Go.Proofs.YtmkpbfghnkmcgaaDoor.fnBytes
