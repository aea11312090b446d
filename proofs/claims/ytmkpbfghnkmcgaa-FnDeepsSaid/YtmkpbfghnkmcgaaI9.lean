/- FnDeeps: the walk (laid by wip/bin/gendeep.py). -/
import Derived.Test.YtmkpbfghnkmcgaaI7
import Derived.Test.YtmkpbfghnkmcgaaI8
import Derived.Test.YtmkpbfghnkmcgaaL18
import Derived.Deep.RegionHeld3
namespace Go.Proofs.Ytmkpbfghnkmcgaa
open Go.RowKit
theorem wf_small4 {n : Int} (h : -1000000 ≤ n) (h2 : n ≤ 1000000) : (Lit.int .i64 n).wf = true := by
  have h1 : IntKind.i64.min = -9223372036854775808 := rfl
  have h2 : IntKind.i64.max = 9223372036854775807 := rfl
  simp only [Lit.wf, Bool.and_eq_true, decide_eq_true_eq, h1, h2]
  omega
set_option maxRecDepth 100000 in
set_option maxHeartbeats 400000 in
theorem isGone_any (k : Int) (w : World) :
    Calls Try.prog 35 #[.int .i64 k] w fun e w' => e = .returned (.bool (gone k)) ∧ Below w.heap.size w w' := by
  by_cases h1 : k = 9
  all_goals
    go_enter Try.func35, Try.ntmps35
    go_wp2_with (go_at_call 69; refine (within_any _ _ [14, 18] 2 _ _ (Rd.lit w #[.int .i64 14, .int .i64 18] 2) (by simp)).mono ?_; rintro e w' ⟨rfl, rfl⟩)
    go_ret
    first | exact ⟨rbool (by simp [gone, h1]), Below.refl _ _⟩ | exact ⟨rbool (by simp [gone, h1, spans]), (Below.refl _ _).alloc (Nat.le_refl _) _⟩
theorem Sees.hi4 {w : World} {B : Nat} {kd : IntKind} {A : Option Addr} {n c : Nat} {zs : List Int} (h : Sees w B kd (.slice A n c) zs) (k : Nat) (hk : k ≤ zs.length) : Sees w B kd (.slice A k c) (zs.take k) := by
  obtain ⟨A', c', e, hr⟩ := h
  injection e with e1 e2 e3
  subst e1; subst e3
  exact ⟨A, c, by rw [List.length_take, Nat.min_eq_left hk], by have := hr.take k; simpa [nums, List.map_take] using this⟩
/-- whether one of the first k goes its own way -/
def anyOwn (ks : List Int) (k : Nat) : Bool := (ks.take k).any (fun x => x == 21)
theorem anyOwn_step (ks : List Int) (k : Nat) : k < ks.length → anyOwn ks (k + 1) = (anyOwn ks k || nth ks k == 21) := by
  intro h
  unfold anyOwn
  rw [take_nth ks k h, List.any_append]; simp
theorem anyOwn_none (ks : List Int) (h : anyOwn ks ks.length = false) : NoOwn ks := by
  intro i hi e
  unfold anyOwn at h
  rw [List.take_of_length_le (Nat.le_refl _), List.any_eq_false] at h
  have := h (nth ks i) (by unfold nth; rw [List.getElem?_eq_getElem hi]; exact List.getElem_mem hi)
  rw [e] at this
  exact this rfl
theorem lwBig_any4 (A : Option Addr) (n c : Nat) (w : World) :
    Calls Try.prog 11 #[.slice A n c] w fun e w' => e = .returned (.bool (decide (1048576 < n))) ∧ w = w' := by
  go_enter Try.func11, Try.ntmps11
  go_wp2
  go_ret
  exact ⟨rbool (by simp; omega), rfl⟩
theorem lwNums_see4 (A A' : Option Addr) (n n' c c' : Nat) {xs : List Int} {w w0 w1 : World} {B B' : Nat} (h1 : Sees w0 B .i64 (.slice A n c) xs) (h2 : Sees w1 B' .i64 (.slice A' n' c') xs) (l1 : xs.length < 1000000000) (e0 : w0.heap = w.heap := by rfl) (e1 : w1.heap = w.heap := by rfl) :
    Calls Try.prog 20 #[.slice A n c, .slice A' n' c'] w fun e w' => e = .returned (.bool true) ∧ ∃ n, w' = w.drewN n :=
  lwNums_same _ _ xs w B B' (h1.keep fun k _ => by rw [e0]) (h2.keep fun k _ => by rw [e1]) l1
end Go.Proofs.Ytmkpbfghnkmcgaa
namespace Go.Proofs.Ytmkpbfghnkmcgaa.fnDeeps
open Go.RowKit

attribute [local go_sem] Oper.semAt_some
theorem field_l0 (y z : Value) (n : Int) (w : World) : (Instr.field 43 (.agg #[.int .i64 n, y, z]) 0).run Try.prog w = .ok (.int .i64 n) w := by simp [Instr.field, go_sem, asAgg]
theorem field_l1 (x z : Value) (A : Option Addr) (n c : Nat) (w : World) : (Instr.field 43 (.agg #[x, .slice A n c, z]) 1).run Try.prog w = .ok (.slice A n c) w := by simp [Instr.field, go_sem, asAgg]
theorem field_l2 (x y : Value) (A : Option Addr) (n c : Nat) (w : World) : (Instr.field 43 (.agg #[x, y, .slice A n c]) 2).run Try.prog w = .ok (.slice A n c) w := by simp [Instr.field, go_sem, asAgg]
theorem field_v (x : Value) (n : Int) (w : World) : (Instr.field 34 (.agg #[x, .int .i64 n]) 1).run Try.prog w = .ok (.int .i64 n) w := by simp [Instr.field, go_sem, asAgg]
attribute [local go_sem] field_l0 field_l1 field_l2 field_v

set_option maxRecDepth 100000 in
set_option maxHeartbeats 16000000 in
theorem walk (A : Option Addr) (zs : List Int) (c : Nat) (w : World) (r : Rd w w.heap.size A (nums .u8 zs)) (hw : ∀ n ∈ zs, (Lit.int .u8 n).wf = true) :
    Calls Try.prog 4 #[.slice A zs.length c] w fun e w' => e = .returned (.bool true) ∧ Below w.heap.size w w' := by
  by_cases hl : 1048576 < zs.length
  · have d0 : decide (1048576 < zs.length) = true := by simp [hl]
    go_enter Try.func4, Try.ntmps4
    go_wp2_with fail
    refine (lwBig_any4 A zs.length c w).mono ?_
    rintro e w1 ⟨rfl, rfl⟩
    rw [d0]
    go_wp2
    go_ret
    exact ⟨rfl, Below.refl _ _⟩
  · have d0 : decide (1048576 < zs.length) = false := by simp [hl]
    have HB := Lib.hid (bytes_of hw)
    have zl : zs.length < 2000000 := by omega
    have R := r
    clear hl r hw
    go_enter Try.func4, Try.ntmps4
    go_wp2_with fail
    refine (lwBig_any4 A zs.length c w).mono ?_
    rintro e w1 ⟨rfl, rfl⟩
    rw [d0]
    have HBW := Below.refl w.heap.size w
    go_wp2_with fail
    refine (drawExplicitOf_any A c zs w R HB.out zl).mono ?_
    rintro e w1 ⟨⟨v, b, rfl, ts, o, lt, dt, b0, b3⟩, b1⟩
    replace R := R.on b1
    replace HBW := below_on HBW b1 (Nat.le_refl _)
    clear b1
    obtain ⟨A1, c1, rfl⟩ := o.form
    have sT := o.sees
    have CT := Lib.hid o.capv
    have cT := own_cap o.1
    clear o
    have WT := Lib.hid dt.wf
    have WB := Lib.hid (wf_small4 (by omega) (by omega) : (Lit.int .i64 b).wf = true)
    clear dt
    go_wp2_with fail
    refine (explicitOf_val _ ts b w1 w1.heap.size sT (Nat.le_refl _) (by omega) WT.out CT.out WB.out).mono ?_
    rintro e w2 ⟨⟨u1, u2, rfl, o1, o2, _⟩, b2⟩
    replace R := R.on b2
    replace sT := (sT.below b2 (Nat.le_refl _)).more b2.size
    replace HBW := below_on HBW b2 (Nat.le_refl _)
    clear b2
    obtain ⟨A2, c2, rfl⟩ := o1.form
    obtain ⟨A3, c3, rfl⟩ := o2.form
    have sL := o1.sees
    have sC := o2.sees
    have cL := own_cap o1.1
    have cC := own_cap o2.1
    have lL := explL_len ts b
    have lC := explC_len ts b
    clear o1 o2
    have b3 := (Below.refl w2.heap.size w2).alloc (Nat.le_refl _) (.cells #[.int .i64 (paraF ts b), .slice A2 (explL ts b).length c2, .slice A3 (explC ts b).length c3] 43)
    have kE := Blk.new w2 43 #[.int .i64 (paraF ts b), .slice A2 (explL ts b).length c2, .slice A3 (explC ts b).length c3]
    replace R := R.on b3
    replace sT := (sT.below b3 (Nat.le_refl _)).more b3.size
    replace sL := (sL.below b3 (Nat.le_refl _)).more b3.size
    replace sC := (sC.below b3 (Nat.le_refl _)).more b3.size
    replace HBW := below_on HBW b3 (Nat.le_refl _)
    clear b3
    go_wp2_with fail
    generalize hg3 : w2.alloc (.cells #[.int .i64 (paraF ts b), .slice A2 (explL ts b).length c2, .slice A3 (explC ts b).length c3] 43) = w3 at *
    clear hg3
    refine (drawLeastOdd_any A c zs w3 R HB.out zl).mono ?_
    rintro e w4 ⟨⟨y, rfl, y0, y1⟩, b4⟩
    replace R := R.on b4
    replace sT := (sT.below b4 (Nat.le_refl _)).more b4.size
    replace sL := (sL.below b4 (Nat.le_refl _)).more b4.size
    replace sC := (sC.below b4 (Nat.le_refl _)).more b4.size
    replace kE := kE.below b4 kE.lt
    replace HBW := below_on HBW b4 (Nat.le_refl _)
    clear b4
    have WY := Lib.hid (wf_small4 (by omega) (by omega) : (Lit.int .i64 y).wf = true)
    go_wp2_with fail
    have bz : Below w4.heap.size w4 w4.drew := ⟨rfl, rfl, rfl, Nat.le_refl _, fun _ _ => rfl⟩
    replace R := R.on bz
    replace sT := (sT.below bz (Nat.le_refl _)).more bz.size
    replace sL := (sL.below bz (Nat.le_refl _)).more bz.size
    replace sC := (sC.below bz (Nat.le_refl _)).more bz.size
    replace kE := kE.below bz kE.lt
    replace HBW := below_on HBW bz (Nat.le_refl _)
    clear bz
    go_region_held3 (fun w' => w'.cell? ⟨w2.heap.size, 0, none⟩ = some (.int .i64 (paraF ts b)) ∧ w'.cell? ⟨w2.heap.size, 1, none⟩ = some (.slice A2 (explL ts b).length c2) ∧ w'.cell? ⟨w2.heap.size, 2, none⟩ = some (.slice A3 (explC ts b).length c3)) (exact ⟨kE.cell 0 rfl, kE.cell 1 rfl, kE.cell 2 rfl⟩) (first
      | (go_at_call 28; refine (specExplicitOf_val _ ts b _ _ sT (Nat.le_refl _) (by omega) WT.out CT.out WB.out).mono ?_; rintro e w101 ⟨⟨y1, y2, rfl, z1, z2, _⟩, b101⟩; have qb101 : Below w4.drew.heap.size w4.drew w101 := ⟨b101.os, b101.tape, b101.output, b101.size, b101.block⟩; replace R := R.on qb101; replace sT := (sT.below qb101 (Nat.le_refl _)).more qb101.size; replace sL := (sL.below qb101 (Nat.le_refl _)).more qb101.size; replace sC := (sC.below qb101 (Nat.le_refl _)).more qb101.size; replace kE := kE.below qb101 kE.lt; replace HBW := below_on HBW qb101 (Nat.le_refl _); clear b101 qb101; obtain ⟨B1, e1, rfl⟩ := z1.form; obtain ⟨B2, e2, rfl⟩ := z2.form; clear z1 z2)
      | (go_at_call 28; refine (specExplicitOf_val _ ts b _ _ sT (Nat.le_refl _) (by omega) WT.out CT.out WB.out).mono ?_; rintro e w102 ⟨⟨y1, y2, rfl, z1, z2, _⟩, b102⟩; have qb102 : Below w101.heap.size w101 w102 := ⟨b102.os, b102.tape, b102.output, b102.size, b102.block⟩; replace R := R.on qb102; replace sT := (sT.below qb102 (Nat.le_refl _)).more qb102.size; replace sL := (sL.below qb102 (Nat.le_refl _)).more qb102.size; replace sC := (sC.below qb102 (Nat.le_refl _)).more qb102.size; replace kE := kE.below qb102 kE.lt; replace HBW := below_on HBW qb102 (Nat.le_refl _); clear b102 qb102; obtain ⟨B3, e3, rfl⟩ := z1.form; obtain ⟨B4, e4, rfl⟩ := z2.form; have sL2 := z1.sees; clear z1 z2)
      | (go_at_call 20; refine (lwNums_see4 _ _ _ _ _ _ sL sL2 (by omega)).mono ?_; rintro e w103 ⟨rfl, n103, hn103⟩; have b103 := below_drawn hn103; clear hn103; have qb103 : Below w102.heap.size w102 w103 := ⟨b103.os, b103.tape, b103.output, b103.size, b103.block⟩; replace R := R.on qb103; replace sT := (sT.below qb103 (Nat.le_refl _)).more qb103.size; replace sL := (sL.below qb103 (Nat.le_refl _)).more qb103.size; replace sC := (sC.below qb103 (Nat.le_refl _)).more qb103.size; replace kE := kE.below qb103 kE.lt; replace HBW := below_on HBW qb103 (Nat.le_refl _); clear b103 qb103; clear sL2)
      | (go_at_call 28; refine (specExplicitOf_val _ ts b _ _ sT (Nat.le_refl _) (by omega) WT.out CT.out WB.out).mono ?_; rintro e w104 ⟨⟨y1, y2, rfl, z1, z2, _⟩, b104⟩; have qb104 : Below w103.heap.size w103 w104 := ⟨b104.os, b104.tape, b104.output, b104.size, b104.block⟩; replace R := R.on qb104; replace sT := (sT.below qb104 (Nat.le_refl _)).more qb104.size; replace sL := (sL.below qb104 (Nat.le_refl _)).more qb104.size; replace sC := (sC.below qb104 (Nat.le_refl _)).more qb104.size; replace kE := kE.below qb104 kE.lt; replace HBW := below_on HBW qb104 (Nat.le_refl _); clear b104 qb104; obtain ⟨B5, e5, rfl⟩ := z1.form; obtain ⟨B6, e6, rfl⟩ := z2.form; have sC2 := z2.sees; clear z1 z2)
      | (go_at_call 20; refine (lwNums_see4 _ _ _ _ _ _ sC sC2 (by omega)).mono ?_; rintro e w105 ⟨rfl, n105, hn105⟩; have b105 := below_drawn hn105; clear hn105; have qb105 : Below w104.heap.size w104 w105 := ⟨b105.os, b105.tape, b105.output, b105.size, b105.block⟩; replace R := R.on qb105; replace sT := (sT.below qb105 (Nat.le_refl _)).more qb105.size; replace sL := (sL.below qb105 (Nat.le_refl _)).more qb105.size; replace sC := (sC.below qb105 (Nat.le_refl _)).more qb105.size; replace kE := kE.below qb105 kE.lt; replace HBW := below_on HBW qb105 (Nat.le_refl _); clear b105 qb105; clear sC2)
      | (go_at_call 29; refine (leastOdd_val y _ WY.out).mono ?_; rintro e w106 ⟨rfl, b106⟩; have qb106 : Below w105.heap.size w105 w106 := ⟨b106.os, b106.tape, b106.output, b106.size, b106.block⟩; replace R := R.on qb106; replace sT := (sT.below qb106 (Nat.le_refl _)).more qb106.size; replace sL := (sL.below qb106 (Nat.le_refl _)).more qb106.size; replace sC := (sC.below qb106 (Nat.le_refl _)).more qb106.size; replace kE := kE.below qb106 kE.lt; replace HBW := below_on HBW qb106 (Nat.le_refl _); clear b106 qb106)
      | (go_at_call 30; refine (specLeastOdd_val y _ WY.out).mono ?_; rintro e w107 ⟨rfl, b107⟩; have qb107 : Below w106.heap.size w106 w107 := ⟨b107.os, b107.tape, b107.output, b107.size, b107.block⟩; replace R := R.on qb107; replace sT := (sT.below qb107 (Nat.le_refl _)).more qb107.size; replace sL := (sL.below qb107 (Nat.le_refl _)).more qb107.size; replace sC := (sC.below qb107 (Nat.le_refl _)).more qb107.size; replace kE := kE.below qb107 kE.lt; replace HBW := below_on HBW qb107 (Nat.le_refl _); clear b107 qb107)
      | (go_at_call 31; refine (leastEven_val y _ WY.out).mono ?_; rintro e w108 ⟨rfl, b108⟩; have qb108 : Below w107.heap.size w107 w108 := ⟨b108.os, b108.tape, b108.output, b108.size, b108.block⟩; replace R := R.on qb108; replace sT := (sT.below qb108 (Nat.le_refl _)).more qb108.size; replace sL := (sL.below qb108 (Nat.le_refl _)).more qb108.size; replace sC := (sC.below qb108 (Nat.le_refl _)).more qb108.size; replace kE := kE.below qb108 kE.lt; replace HBW := below_on HBW qb108 (Nat.le_refl _); clear b108 qb108)
      | (go_at_call 32; refine (specLeastEven_val y _ WY.out).mono ?_; rintro e w109 ⟨rfl, b109⟩; have qb109 : Below w108.heap.size w108 w109 := ⟨b109.os, b109.tape, b109.output, b109.size, b109.block⟩; replace R := R.on qb109; replace sT := (sT.below qb109 (Nat.le_refl _)).more qb109.size; replace sL := (sL.below qb109 (Nat.le_refl _)).more qb109.size; replace sC := (sC.below qb109 (Nat.le_refl _)).more qb109.size; replace kE := kE.below qb109 kE.lt; replace HBW := below_on HBW qb109 (Nat.le_refl _); clear b109 qb109)
      | (go_at_call 33; refine (paraFault_val _ ts b _ _ sT (Nat.le_refl _) (by omega) WT.out WB.out).mono ?_; rintro e w110 ⟨rfl, b110⟩; have qb110 : Below w109.heap.size w109 w110 := ⟨b110.os, b110.tape, b110.output, b110.size, b110.block⟩; replace R := R.on qb110; replace sT := (sT.below qb110 (Nat.le_refl _)).more qb110.size; replace sL := (sL.below qb110 (Nat.le_refl _)).more qb110.size; replace sC := (sC.below qb110 (Nat.le_refl _)).more qb110.size; replace kE := kE.below qb110 kE.lt; replace HBW := below_on HBW qb110 (Nat.le_refl _); clear b110 qb110)
      | (go_at_call 34; refine (specParaFault_val _ ts b _ _ sT (Nat.le_refl _) (by omega) WT.out WB.out).mono ?_; rintro e w111 ⟨rfl, b111⟩; have qb111 : Below w110.heap.size w110 w111 := ⟨b111.os, b111.tape, b111.output, b111.size, b111.block⟩; replace R := R.on qb111; replace sT := (sT.below qb111 (Nat.le_refl _)).more qb111.size; replace sL := (sL.below qb111 (Nat.le_refl _)).more qb111.size; replace sC := (sC.below qb111 (Nat.le_refl _)).more qb111.size; replace kE := kE.below qb111 kE.lt; replace HBW := below_on HBW qb111 (Nat.le_refl _); clear b111 qb111)
      )
    have ce0 := kE.cell 0 (u := .int .i64 (paraF ts b)) rfl
    have ce1 := kE.cell 1 (u := .slice A2 (explL ts b).length c2) rfl
    have ce2 := kE.cell 2 (u := .slice A3 (explC ts b).length c3) rfl
    by_cases hz : paraF ts b = 0
    · have g0 : (paraF ts b != 0) = false := by simp [hz]
      have HZ := Lib.hid hz
      have PZ := paraF_zero hz
      have TZ := Lib.hid (textF_zero PZ.1)
      have HBb := Lib.hid (show 0 ≤ b ∧ b ≤ 1 from ⟨PZ.2.1, PZ.2.2.1⟩)
      have ll := TZ.out.1
      have EL := Lib.hid (show explL ts b = levN (classesN ts) b by unfold explL; rw [if_pos hz])
      have nL : (explL ts b).length = ts.length := by rw [EL.out]; unfold levN; rw [(eat_len _ _ _).1, classesN_len]
      have nC : (explC ts b).length = ts.length := by unfold explC; rw [if_pos hz]; unfold clsN; rw [(eat_len _ _ _).2, classesN_len]
      have fL : (((explL ts b).length : Int) != (ts.length : Int)) = false := by simp [nL]
      have fC : (((explC ts b).length : Int) != (ts.length : Int)) = false := by simp [nC]
      have NL := Lib.hid nL
      have NC := Lib.hid nC
      clear hz PZ nL nC
      have b00 := Lib.hid (Below.refl w111.heap.size w111)
      go_wp2
      go_loopw [7, 8] (fun o i wr => ∃ (k : Nat) (x : Bool), k ≤ ts.length ∧ i = .int .i64 k ∧ o = .bool x ∧ Hid (x = anyOwn (classesN ts) k) ∧ Hid (Below w111.heap.size w111 wr)) (fun _ i _ => ts.length + 1 - (intOf i).toNat)
      case atStart => exact ⟨0, false, by omega, rfl, rfl, Lib.hid rfl, b00⟩
      case round =>
        clear b00 ce0 ce1 ce2
        obtain ⟨k, x, hk, rfl, rfl, hx, hbr⟩ := hrel
        by_cases hlt : k < ts.length
        · obtain ⟨A1', c1', e1, r1⟩ := sT.below hbr.out (Nat.le_refl _)
          injection e1 with e11 e12 e13
          clear e12
          subst e11; subst e13
          obtain ⟨b1, off1, rfl, _, hc1⟩ := r1.int (by omega)
          have hc0 := hc1 k hlt
          clear hc1 r1
          have hch := chr_nth ts TZ.out.2 k hlt
          have HQ := Lib.hid (classesN_nth ts k hlt)
          have LF := Lib.hid (lev_facts (classesN ts) b HBb.out k (by rw [classesN_len]; exact hlt))
          rw [← EL.out] at LF
          obtain ⟨z, hz⟩ : ∃ z, Hid (nth ts k = z) := ⟨_, Lib.hid rfl⟩
          rw [hz.out] at hc0 hch HQ
          have CY := Lib.hid (class_yes (show isChr z = true from hch))
          have WZ := Lib.hid (Drawn.wf (ts := [z]) (Drawn.one (by have := chrB_range hch; omega)) z (by simp))
          clear hch
          obtain ⟨qz, hqz⟩ : ∃ qz, Hid (nth (classesN ts) k = qz) := ⟨_, Lib.hid rfl⟩
          rw [hqz.out] at HQ LF
          rw [← HQ.out] at CY
          go_wp2_with fail
          refine (specClassOf_val z wr WZ.out).mono ?_
          rintro e wq ⟨rfl, bq⟩
          rw [CY.out.1, CY.out.2]
          have hbq := below_on hbr.out bq (Nat.le_refl _)
          clear bq hbr hc0
          have kEq := kE.below hbq kE.lt
          have BQ := Lib.hid hbq
          obtain ⟨AL, cL', eL, rL⟩ := sL.below hbq (Nat.le_refl _)
          injection eL with eL1 eL2 eL3
          clear eL2 hbq
          subst eL1; subst eL3
          obtain ⟨bL, offL, eA, hbL, hcL⟩ := rL.int (by rw [NL.out]; omega)
          have lc := hcL k (by rw [NL.out]; exact hlt)
          clear hcL rL
          have XN := Lib.hid (anyOwn_step (classesN ts) k (by rw [classesN_len]; exact hlt))
          rw [hqz.out, ← hx.out] at XN
          obtain ⟨vz, hvz⟩ : ∃ vz, Hid (nth (explL ts b) k = vz) := ⟨_, Lib.hid rfl⟩
          rw [hvz.out] at lc LF
          have ce1 := kEq.cell 1 (u := .slice A2 (explL ts b).length c2) rfl
          have HLT : (k : Int) < ((explL ts b).length : Int) := by rw [NL.out]; omega
          have go : (qz == 21) = true ∨ (qz == 21) = false := by cases (qz == 21) <;> simp
          rcases LF.out with ⟨hg, hv⟩ | ⟨hg, hv1, hv2, hv3⟩
          · have v0 : (vz == -1) = true := by simp [hv]
            have v1 : decide (125 < vz) = false := decide_eq_false (by omega)
            have RB := Lib.hid hg
            clear hg hv
            subst eA
            cases x with
            | true =>
              have XN2 := Lib.hid (show true = anyOwn (classesN ts) (k + 1) by rw [XN.out]; rfl)
              go_wp2_with fail
              have bz : Below wq.heap.size wq wq.drew := ⟨rfl, rfl, rfl, Nat.le_refl _, fun _ _ => rfl⟩
              replace kEq := kEq.below bz kEq.lt
              replace lc : wq.drew.cell? ⟨bL, offL + k, none⟩ = some (.int .i64 vz) := lc
              have BZ := Lib.hid (below_on BQ.out bz (Nat.le_refl _))
              have hlL : bL < wq.drew.heap.size := World.block_lt_of_cell? _ _ lc
              clear bz
              refine wp_region_held_drew (S := fun w' => w'.cell? ⟨w2.heap.size, 1, none⟩ = some (.slice (some ⟨bL, offL, none⟩) (explL ts b).length c2) ∧ w'.cell? ⟨w2.heap.size, 2, none⟩ = some (.slice A3 (explC ts b).length c3) ∧ w'.cell? ⟨bL, offL + k, none⟩ = some (.int .i64 vz)) (by kernel_rfl) ⟨kEq.cell 1 rfl, kEq.cell 2 rfl, lc⟩ (fun hHeld => ?_)
              refine wpAnyH_take (i := 0) (oi := { dst := some 98, op := Op.fieldAddr 43 (Operand.tmp 5) 1, type := 0, pos := "laws.go:210", after := #[], guard := none }) (v := ?_) rfl (by kernel_rfl) (by kernel_rfl) (by kernel_rfl) (fun _ _ _ h => h) (Or.inl ⟨by rfl, ?_⟩) (by assumption) ?_
              rotate_left
              · (intro w hSw; (try dsimp only at hSw); go_simp; try with_reducible rfl)
              try simp only [Act.put, List.setIfInBounds_toArray, List.set_cons_zero, List.set_cons_succ]
              refine wpAnyH_take (i := 1) (oi := { dst := some 99, op := Op.load 24 (Operand.tmp 98), type := 24, pos := "laws.go:210", after := #[{ on := 0, ground := Ground.data }], guard := none }) (v := ?_) rfl (by kernel_rfl) (by kernel_rfl) (by kernel_rfl) (fun _ _ _ h => h) (Or.inl ⟨by rfl, ?_⟩) (by assumption) ?_
              rotate_left
              · (intro w hSw; (try dsimp only at hSw); go_simp; try with_reducible rfl)
              try simp only [Act.put, List.setIfInBounds_toArray, List.set_cons_zero, List.set_cons_succ]
              refine wpAnyH_take (i := 2) (oi := { dst := some 100, op := Op.call { callee := Callee.builtin Builtin.len, args := #[Operand.tmp 99], argTypes := #[24] }, type := 3, pos := "laws.go:210", after := #[{ on := 1, ground := Ground.data }], guard := none }) (v := ?_) rfl (by kernel_rfl) (by kernel_rfl) (by kernel_rfl) (fun _ _ _ h => h) (Or.inl ⟨by rfl, ?_⟩) (by assumption) ?_
              rotate_left
              · (intro w hSw; (try dsimp only at hSw); go_simp; try with_reducible rfl)
              try simp only [Act.put, List.setIfInBounds_toArray, List.set_cons_zero, List.set_cons_succ]
              refine wpAnyH_take (i := 3) (oi := { dst := some 101, op := Op.move (Operand.tmp 3), type := 24, pos := "laws.go:210", after := #[], guard := none }) (v := ?_) rfl (by kernel_rfl) (by kernel_rfl) (by kernel_rfl) (fun _ _ _ h => h) (Or.inl ⟨by rfl, ?_⟩) (by assumption) ?_
              rotate_left
              · (intro w hSw; (try dsimp only at hSw); go_simp; try with_reducible rfl)
              try simp only [Act.put, List.setIfInBounds_toArray, List.set_cons_zero, List.set_cons_succ]
              refine wpAnyH_take (i := 4) (oi := { dst := some 102, op := Op.call { callee := Callee.builtin Builtin.len, args := #[Operand.tmp 101], argTypes := #[24] }, type := 3, pos := "laws.go:210", after := #[{ on := 3, ground := Ground.data }], guard := none }) (v := ?_) rfl (by kernel_rfl) (by kernel_rfl) (by kernel_rfl) (fun _ _ _ h => h) (Or.inl ⟨by rfl, ?_⟩) (by assumption) ?_
              rotate_left
              · (intro w hSw; (try dsimp only at hSw); go_simp; try with_reducible rfl)
              try simp only [Act.put, List.setIfInBounds_toArray, List.set_cons_zero, List.set_cons_succ]
              refine wpAnyH_take (i := 5) (oi := { dst := some 103, op := Op.binOp BinOp.neq 3 (Operand.tmp 100) (Operand.tmp 102) 3, type := 4, pos := "laws.go:210", after := #[{ on := 2, ground := Ground.data }, { on := 4, ground := Ground.data }], guard := none }) (v := ?_) rfl (by kernel_rfl) (by kernel_rfl) (by kernel_rfl) (fun _ _ _ h => h) (Or.inl ⟨by rfl, ?_⟩) (by assumption) ?_
              rotate_left
              · (intro w hSw; (try dsimp only at hSw); go_simp; try with_reducible rfl)
              try simp only [Act.put, List.setIfInBounds_toArray, List.set_cons_zero, List.set_cons_succ]
              refine wpAnyH_take (i := 6) (oi := { dst := some 104, op := Op.move (Operand.tmp 103), type := 4, pos := "laws.go:210", after := #[{ on := 5, ground := Ground.data }], guard := none }) (v := ?_) rfl (by kernel_rfl) (by kernel_rfl) (by kernel_rfl) (fun _ _ _ h => h) (Or.inl ⟨by rfl, ?_⟩) (by assumption) ?_
              rotate_left
              · (intro w hSw; (try dsimp only at hSw); go_simp; try with_reducible rfl)
              try simp only [Act.put, List.setIfInBounds_toArray, List.set_cons_zero, List.set_cons_succ]
              refine wpAnyH_take (i := 7) (oi := { dst := some 105, op := Op.fieldAddr 43 (Operand.tmp 5) 2, type := 0, pos := "laws.go:210", after := #[{ on := 6, ground := Ground.guard }], guard := some (6, false) }) (v := ?_) rfl (by kernel_rfl) (by kernel_rfl) (by kernel_rfl) (fun _ _ _ h => h) (Or.inl ⟨by rfl, ?_⟩) (by assumption) ?_
              rotate_left
              · (intro w hSw; (try dsimp only at hSw); go_simp; try with_reducible rfl)
              try simp only [Act.put, List.setIfInBounds_toArray, List.set_cons_zero, List.set_cons_succ]
              refine wpAnyH_take (i := 8) (oi := { dst := some 106, op := Op.load 24 (Operand.tmp 105), type := 24, pos := "laws.go:210", after := #[{ on := 7, ground := Ground.data }, { on := 6, ground := Ground.guard }], guard := some (6, false) }) (v := ?_) rfl (by kernel_rfl) (by kernel_rfl) (by kernel_rfl) (fun _ _ _ h => h) (Or.inl ⟨by rfl, ?_⟩) (by assumption) ?_
              rotate_left
              · (intro w hSw; (try dsimp only at hSw); go_simp; try with_reducible rfl)
              try simp only [Act.put, List.setIfInBounds_toArray, List.set_cons_zero, List.set_cons_succ]
              refine wpAnyH_take (i := 9) (oi := { dst := some 107, op := Op.call { callee := Callee.builtin Builtin.len, args := #[Operand.tmp 106], argTypes := #[24] }, type := 3, pos := "laws.go:210", after := #[{ on := 8, ground := Ground.data }, { on := 6, ground := Ground.guard }], guard := some (6, false) }) (v := ?_) rfl (by kernel_rfl) (by kernel_rfl) (by kernel_rfl) (fun _ _ _ h => h) (Or.inl ⟨by rfl, ?_⟩) (by assumption) ?_
              rotate_left
              · (intro w hSw; (try dsimp only at hSw); go_simp; try with_reducible rfl)
              try simp only [Act.put, List.setIfInBounds_toArray, List.set_cons_zero, List.set_cons_succ]
              refine wpAnyH_take (i := 10) (oi := { dst := some 108, op := Op.move (Operand.tmp 3), type := 24, pos := "laws.go:210", after := #[{ on := 6, ground := Ground.guard }], guard := some (6, false) }) (v := ?_) rfl (by kernel_rfl) (by kernel_rfl) (by kernel_rfl) (fun _ _ _ h => h) (Or.inl ⟨by rfl, ?_⟩) (by assumption) ?_
              rotate_left
              · (intro w hSw; (try dsimp only at hSw); go_simp; try with_reducible rfl)
              try simp only [Act.put, List.setIfInBounds_toArray, List.set_cons_zero, List.set_cons_succ]
              refine wpAnyH_take (i := 11) (oi := { dst := some 109, op := Op.call { callee := Callee.builtin Builtin.len, args := #[Operand.tmp 108], argTypes := #[24] }, type := 3, pos := "laws.go:210", after := #[{ on := 10, ground := Ground.data }, { on := 6, ground := Ground.guard }], guard := some (6, false) }) (v := ?_) rfl (by kernel_rfl) (by kernel_rfl) (by kernel_rfl) (fun _ _ _ h => h) (Or.inl ⟨by rfl, ?_⟩) (by assumption) ?_
              rotate_left
              · (intro w hSw; (try dsimp only at hSw); go_simp; try with_reducible rfl)
              try simp only [Act.put, List.setIfInBounds_toArray, List.set_cons_zero, List.set_cons_succ]
              refine wpAnyH_take (i := 12) (oi := { dst := some 110, op := Op.binOp BinOp.neq 3 (Operand.tmp 107) (Operand.tmp 109) 3, type := 4, pos := "laws.go:210", after := #[{ on := 9, ground := Ground.data }, { on := 11, ground := Ground.data }, { on := 6, ground := Ground.guard }], guard := some (6, false) }) (v := ?_) rfl (by kernel_rfl) (by kernel_rfl) (by kernel_rfl) (fun _ _ _ h => h) (Or.inl ⟨by rfl, ?_⟩) (by assumption) ?_
              rotate_left
              · (intro w hSw; (try dsimp only at hSw); go_simp; try with_reducible rfl)
              try simp only [Act.put, List.setIfInBounds_toArray, List.set_cons_zero, List.set_cons_succ]
              refine wpAnyH_take (i := 13) (oi := { dst := some 111, op := Op.pick (Operand.tmp 104) (Operand.const (Value.bool true)) (Operand.tmp 110), type := 4, pos := "laws.go:210", after := #[{ on := 6, ground := Ground.data }, { on := 12, ground := Ground.data }], guard := none }) (v := ?_) rfl (by kernel_rfl) (by kernel_rfl) (by kernel_rfl) (fun _ _ _ h => h) (Or.inl ⟨by rfl, ?_⟩) (by assumption) ?_
              rotate_left
              · (intro w hSw; (try dsimp only at hSw); go_simp; try with_reducible rfl)
              try simp only [Act.put, List.setIfInBounds_toArray, List.set_cons_zero, List.set_cons_succ]
              refine wpAnyH_take (i := 14) (oi := { dst := some 112, op := Op.move (Operand.tmp 111), type := 4, pos := "laws.go:210", after := #[{ on := 13, ground := Ground.data }, { on := 6, ground := Ground.chain }], guard := none }) (v := ?_) rfl (by kernel_rfl) (by kernel_rfl) (by kernel_rfl) (fun _ _ _ h => h) (Or.inl ⟨by rfl, ?_⟩) (by assumption) ?_
              rotate_left
              · (intro w hSw; (try dsimp only at hSw); go_simp; try with_reducible rfl)
              try simp only [Act.put, List.setIfInBounds_toArray, List.set_cons_zero, List.set_cons_succ]
              refine wpAnyH_take (i := 15) (oi := { dst := some 113, op := Op.move (Operand.tmp 9), type := 2, pos := "laws.go:210", after := #[{ on := 14, ground := Ground.guard }], guard := some (14, false) }) (v := ?_) rfl (by kernel_rfl) (by kernel_rfl) (by kernel_rfl) (fun _ _ _ h => h) (Or.inl ⟨by rfl, ?_⟩) (by assumption) ?_
              rotate_left
              · (intro w hSw; (try dsimp only at hSw); go_simp; try with_reducible rfl)
              try simp only [Act.put, List.setIfInBounds_toArray, List.set_cons_zero, List.set_cons_succ]
              refine wpAnyH_take (i := 17) (oi := { dst := some 115, op := Op.fieldAddr 43 (Operand.tmp 5) 1, type := 0, pos := "laws.go:210", after := #[{ on := 14, ground := Ground.guard }], guard := some (14, false) }) (v := ?_) rfl (by kernel_rfl) (by kernel_rfl) (by kernel_rfl) (fun _ _ _ h => h) (Or.inl ⟨by rfl, ?_⟩) (by assumption) ?_
              rotate_left
              · (intro w hSw; (try dsimp only at hSw); go_simp; try with_reducible rfl)
              try simp only [Act.put, List.setIfInBounds_toArray, List.set_cons_zero, List.set_cons_succ]
              refine wpAnyH_take (i := 18) (oi := { dst := some 116, op := Op.load 24 (Operand.tmp 115), type := 24, pos := "laws.go:210", after := #[{ on := 17, ground := Ground.data }, { on := 14, ground := Ground.guard }], guard := some (14, false) }) (v := ?_) rfl (by kernel_rfl) (by kernel_rfl) (by kernel_rfl) (fun _ _ _ h => h) (Or.inl ⟨by rfl, ?_⟩) (by assumption) ?_
              rotate_left
              · (intro w hSw; (try dsimp only at hSw); go_simp; try with_reducible rfl)
              try simp only [Act.put, List.setIfInBounds_toArray, List.set_cons_zero, List.set_cons_succ]
              refine wpAnyH_take (i := 19) (oi := { dst := some 117, op := Op.move (Operand.tmp 8), type := 3, pos := "laws.go:210", after := #[{ on := 14, ground := Ground.guard }], guard := some (14, false) }) (v := ?_) rfl (by kernel_rfl) (by kernel_rfl) (by kernel_rfl) (fun _ _ _ h => h) (Or.inl ⟨by rfl, ?_⟩) (by assumption) ?_
              rotate_left
              · (intro w hSw; (try dsimp only at hSw); go_simp; try with_reducible rfl)
              try simp only [Act.put, List.setIfInBounds_toArray, List.set_cons_zero, List.set_cons_succ]
              refine wpAnyH_take (i := 20) (oi := { dst := some 118, op := Op.indexAddr 24 (Operand.tmp 116) (Operand.tmp 117), type := 0, pos := "laws.go:210", after := #[{ on := 18, ground := Ground.data }, { on := 19, ground := Ground.data }, { on := 14, ground := Ground.guard }], guard := some (14, false) }) (v := ?_) rfl (by kernel_rfl) (by kernel_rfl) (by kernel_rfl) (fun _ _ _ h => h) (Or.inl ⟨by rfl, ?_⟩) (by assumption) ?_
              rotate_left
              · (intro w hSw; (try dsimp only at hSw); go_simp; try with_reducible rfl)
              try simp only [Act.put, List.setIfInBounds_toArray, List.set_cons_zero, List.set_cons_succ]
              refine wpAnyH_take (i := 21) (oi := { dst := some 119, op := Op.load 2 (Operand.tmp 118), type := 2, pos := "laws.go:210", after := #[{ on := 20, ground := Ground.data }, { on := 14, ground := Ground.guard }], guard := some (14, false) }) (v := ?_) rfl (by kernel_rfl) (by kernel_rfl) (by kernel_rfl) (fun _ _ _ h => h) (Or.inl ⟨by rfl, ?_⟩) (by assumption) ?_
              rotate_left
              · (intro w hSw; (try dsimp only at hSw); go_simp; try with_reducible rfl)
              try simp only [Act.put, List.setIfInBounds_toArray, List.set_cons_zero, List.set_cons_succ]
              refine wpAnyH_take (i := 22) (oi := { dst := some 120, op := Op.binOp BinOp.eql 2 (Operand.tmp 119) (Operand.const (Value.int IntKind.i64 (-1))) 2, type := 4, pos := "laws.go:210", after := #[{ on := 21, ground := Ground.data }, { on := 14, ground := Ground.guard }], guard := some (14, false) }) (v := ?_) rfl (by kernel_rfl) (by kernel_rfl) (by kernel_rfl) (fun _ _ _ h => h) (Or.inl ⟨by rfl, ?_⟩) (by assumption) ?_
              rotate_left
              · (intro w hSw; (try dsimp only at hSw); go_simp; try with_reducible rfl)
              try simp only [Act.put, List.setIfInBounds_toArray, List.set_cons_zero, List.set_cons_succ]
              refine wpAnyH_ready (rs := [16]) (by kernel_rfl) (by simp) ?_
              refine AllReadyH.cons (o := { dst := some 114, op := Op.call { callee := Callee.value (Operand.func 35), args := #[Operand.tmp 113], argTypes := #[2] }, type := 4, pos := "laws.go:210", after := #[{ on := 15, ground := Ground.data }, { on := 14, ground := Ground.chain }, { on := 14, ground := Ground.guard }], guard := some (14, false) }) rfl (fun K hK => ?_) AllReadyH.nil
              go_simp
              go_at_call 35
              refine (isGone_any qz _).mono ?_
              rintro e wA ⟨rfl, bA⟩
              have qbA : Below wq.drew.heap.size wq.drew wA := ⟨bA.os, bA.tape, bA.output, bA.size, bA.block⟩
              replace kEq := kEq.below qbA kEq.lt
              replace lc := (qbA.cell (p := ⟨bL, offL + k, none⟩) hlL).trans lc
              replace hlL := Nat.lt_of_lt_of_le hlL qbA.size
              replace BZ := Lib.hid (below_on BZ.out qbA (Nat.le_refl _))
              clear bA qbA
              rw [RB.out]
              try dsimp only
              refine hK.out _ _ ⟨kEq.cell 1 rfl, kEq.cell 2 rfl, lc⟩ (fun hHeld => ?_)
              clear hK K
              try simp only [Act.put, List.setIfInBounds_toArray, List.set_cons_zero, List.set_cons_succ]
              refine wpAnyH_take (i := 23) (oi := { dst := some 121, op := Op.binOp BinOp.neq 4 (Operand.tmp 114) (Operand.tmp 120) 4, type := 4, pos := "laws.go:210", after := #[{ on := 16, ground := Ground.data }, { on := 22, ground := Ground.data }, { on := 14, ground := Ground.guard }], guard := some (14, false) }) (v := ?_) rfl (by kernel_rfl) (by kernel_rfl) (by kernel_rfl) (fun _ _ _ h => h) (Or.inl ⟨by rfl, ?_⟩) (by assumption) ?_
              rotate_left
              · (intro w hSw; (try dsimp only at hSw); go_simp; try with_reducible rfl)
              try simp only [Act.put, List.setIfInBounds_toArray, List.set_cons_zero, List.set_cons_succ]
              refine wpAnyH_take (i := 24) (oi := { dst := some 122, op := Op.pick (Operand.tmp 112) (Operand.const (Value.bool true)) (Operand.tmp 121), type := 4, pos := "laws.go:210", after := #[{ on := 14, ground := Ground.data }, { on := 23, ground := Ground.data }], guard := none }) (v := ?_) rfl (by kernel_rfl) (by kernel_rfl) (by kernel_rfl) (fun _ _ _ h => h) (Or.inl ⟨by rfl, ?_⟩) (by assumption) ?_
              rotate_left
              · (intro w hSw; (try dsimp only at hSw); go_simp; try with_reducible rfl)
              try simp only [Act.put, List.setIfInBounds_toArray, List.set_cons_zero, List.set_cons_succ]
              refine wpAnyH_take (i := 25) (oi := { dst := some 123, op := Op.move (Operand.tmp 122), type := 4, pos := "laws.go:210", after := #[{ on := 24, ground := Ground.data }, { on := 16, ground := Ground.chain }], guard := none }) (v := ?_) rfl (by kernel_rfl) (by kernel_rfl) (by kernel_rfl) (fun _ _ _ h => h) (Or.inl ⟨by rfl, ?_⟩) (by assumption) ?_
              rotate_left
              · (intro w hSw; (try dsimp only at hSw); go_simp; try with_reducible rfl)
              try simp only [Act.put, List.setIfInBounds_toArray, List.set_cons_zero, List.set_cons_succ]
              refine wpAnyH_take (i := 26) (oi := { dst := some 124, op := Op.fieldAddr 43 (Operand.tmp 5) 1, type := 0, pos := "laws.go:210", after := #[{ on := 25, ground := Ground.guard }], guard := some (25, false) }) (v := ?_) rfl (by kernel_rfl) (by kernel_rfl) (by kernel_rfl) (fun _ _ _ h => h) (Or.inl ⟨by rfl, ?_⟩) (by assumption) ?_
              rotate_left
              · (intro w hSw; (try dsimp only at hSw); go_simp; try with_reducible rfl)
              try simp only [Act.put, List.setIfInBounds_toArray, List.set_cons_zero, List.set_cons_succ]
              refine wpAnyH_take (i := 27) (oi := { dst := some 125, op := Op.load 24 (Operand.tmp 124), type := 24, pos := "laws.go:210", after := #[{ on := 26, ground := Ground.data }, { on := 25, ground := Ground.guard }], guard := some (25, false) }) (v := ?_) rfl (by kernel_rfl) (by kernel_rfl) (by kernel_rfl) (fun _ _ _ h => h) (Or.inl ⟨by rfl, ?_⟩) (by assumption) ?_
              rotate_left
              · (intro w hSw; (try dsimp only at hSw); go_simp; try with_reducible rfl)
              try simp only [Act.put, List.setIfInBounds_toArray, List.set_cons_zero, List.set_cons_succ]
              refine wpAnyH_take (i := 28) (oi := { dst := some 126, op := Op.move (Operand.tmp 8), type := 3, pos := "laws.go:210", after := #[{ on := 25, ground := Ground.guard }], guard := some (25, false) }) (v := ?_) rfl (by kernel_rfl) (by kernel_rfl) (by kernel_rfl) (fun _ _ _ h => h) (Or.inl ⟨by rfl, ?_⟩) (by assumption) ?_
              rotate_left
              · (intro w hSw; (try dsimp only at hSw); go_simp; try with_reducible rfl)
              try simp only [Act.put, List.setIfInBounds_toArray, List.set_cons_zero, List.set_cons_succ]
              refine wpAnyH_take (i := 29) (oi := { dst := some 127, op := Op.indexAddr 24 (Operand.tmp 125) (Operand.tmp 126), type := 0, pos := "laws.go:210", after := #[{ on := 27, ground := Ground.data }, { on := 28, ground := Ground.data }, { on := 25, ground := Ground.guard }], guard := some (25, false) }) (v := ?_) rfl (by kernel_rfl) (by kernel_rfl) (by kernel_rfl) (fun _ _ _ h => h) (Or.inl ⟨by rfl, ?_⟩) (by assumption) ?_
              rotate_left
              · (intro w hSw; (try dsimp only at hSw); go_simp; try with_reducible rfl)
              try simp only [Act.put, List.setIfInBounds_toArray, List.set_cons_zero, List.set_cons_succ]
              refine wpAnyH_take (i := 30) (oi := { dst := some 128, op := Op.load 2 (Operand.tmp 127), type := 2, pos := "laws.go:210", after := #[{ on := 29, ground := Ground.data }, { on := 25, ground := Ground.guard }], guard := some (25, false) }) (v := ?_) rfl (by kernel_rfl) (by kernel_rfl) (by kernel_rfl) (fun _ _ _ h => h) (Or.inl ⟨by rfl, ?_⟩) (by assumption) ?_
              rotate_left
              · (intro w hSw; (try dsimp only at hSw); go_simp; try with_reducible rfl)
              try simp only [Act.put, List.setIfInBounds_toArray, List.set_cons_zero, List.set_cons_succ]
              refine wpAnyH_take (i := 31) (oi := { dst := some 129, op := Op.binOp BinOp.gtr 2 (Operand.tmp 128) (Operand.const (Value.int IntKind.i64 125)) 2, type := 4, pos := "laws.go:210", after := #[{ on := 30, ground := Ground.data }, { on := 25, ground := Ground.guard }], guard := some (25, false) }) (v := ?_) rfl (by kernel_rfl) (by kernel_rfl) (by kernel_rfl) (fun _ _ _ h => h) (Or.inl ⟨by rfl, ?_⟩) (by assumption) ?_
              rotate_left
              · (intro w hSw; (try dsimp only at hSw); go_simp; try with_reducible rfl)
              try simp only [Act.put, List.setIfInBounds_toArray, List.set_cons_zero, List.set_cons_succ]
              refine wpAnyH_take (i := 32) (oi := { dst := some 130, op := Op.pick (Operand.tmp 123) (Operand.const (Value.bool true)) (Operand.tmp 129), type := 4, pos := "laws.go:210", after := #[{ on := 25, ground := Ground.data }, { on := 31, ground := Ground.data }], guard := none }) (v := ?_) rfl (by kernel_rfl) (by kernel_rfl) (by kernel_rfl) (fun _ _ _ h => h) (Or.inl ⟨by rfl, ?_⟩) (by assumption) ?_
              rotate_left
              · (intro w hSw; (try dsimp only at hSw); go_simp; try with_reducible rfl)
              try simp only [Act.put, List.setIfInBounds_toArray, List.set_cons_zero, List.set_cons_succ]
              refine wpAnyH_take (i := 33) (oi := { dst := some 131, op := Op.move (Operand.tmp 130), type := 4, pos := "laws.go:210", after := #[{ on := 32, ground := Ground.data }, { on := 25, ground := Ground.chain }], guard := none }) (v := ?_) rfl (by kernel_rfl) (by kernel_rfl) (by kernel_rfl) (fun _ _ _ h => h) (Or.inl ⟨by rfl, ?_⟩) (by assumption) ?_
              rotate_left
              · (intro w hSw; (try dsimp only at hSw); go_simp; try with_reducible rfl)
              try simp only [Act.put, List.setIfInBounds_toArray, List.set_cons_zero, List.set_cons_succ]
              refine wpAnyH_take (i := 34) (oi := { dst := some 132, op := Op.move (Operand.tmp 9), type := 2, pos := "laws.go:210", after := #[{ on := 33, ground := Ground.guard }], guard := some (33, false) }) (v := ?_) rfl (by kernel_rfl) (by kernel_rfl) (by kernel_rfl) (fun _ _ _ h => h) (Or.inl ⟨by rfl, ?_⟩) (by assumption) ?_
              rotate_left
              · (intro w hSw; (try dsimp only at hSw); go_simp; try with_reducible rfl)
              try simp only [Act.put, List.setIfInBounds_toArray, List.set_cons_zero, List.set_cons_succ]
              refine wpAnyH_ready (rs := [35]) (by kernel_rfl) (by simp) ?_
              refine AllReadyH.cons (o := { dst := some 133, op := Op.call { callee := Callee.value (Operand.func 35), args := #[Operand.tmp 132], argTypes := #[2] }, type := 4, pos := "laws.go:210", after := #[{ on := 34, ground := Ground.data }, { on := 33, ground := Ground.chain }, { on := 33, ground := Ground.guard }], guard := some (33, false) }) rfl (fun K hK => ?_) AllReadyH.nil
              go_simp
              go_at_call 35
              refine (isGone_any qz _).mono ?_
              rintro e wB ⟨rfl, bB⟩
              have qbB : Below wA.heap.size wA wB := ⟨bB.os, bB.tape, bB.output, bB.size, bB.block⟩
              replace kEq := kEq.below qbB kEq.lt
              replace lc := (qbB.cell (p := ⟨bL, offL + k, none⟩) hlL).trans lc
              replace hlL := Nat.lt_of_lt_of_le hlL qbB.size
              replace BZ := Lib.hid (below_on BZ.out qbB (Nat.le_refl _))
              clear bB qbB
              rw [RB.out]
              try dsimp only
              refine hK.out _ _ ⟨kEq.cell 1 rfl, kEq.cell 2 rfl, lc⟩ (fun hHeld => ?_)
              clear hK K
              try simp only [Act.put, List.setIfInBounds_toArray, List.set_cons_zero, List.set_cons_succ]
              refine wpAnyH_take (i := 36) (oi := { dst := some 134, op := Op.unOp UnOp.not 4 (Operand.tmp 133), type := 4, pos := "laws.go:210", after := #[{ on := 35, ground := Ground.data }, { on := 33, ground := Ground.guard }], guard := some (33, false) }) (v := ?_) rfl (by kernel_rfl) (by kernel_rfl) (by kernel_rfl) (fun _ _ _ h => h) (Or.inl ⟨by rfl, ?_⟩) (by assumption) ?_
              rotate_left
              · (intro w hSw; (try dsimp only at hSw); go_simp; try with_reducible rfl)
              try simp only [Act.put, List.setIfInBounds_toArray, List.set_cons_zero, List.set_cons_succ]
              refine wpAnyH_take (i := 37) (oi := { dst := some 135, op := Op.move (Operand.tmp 134), type := 4, pos := "laws.go:210", after := #[{ on := 36, ground := Ground.data }, { on := 35, ground := Ground.chain }, { on := 33, ground := Ground.guard }], guard := some (33, false) }) (v := ?_) rfl (by kernel_rfl) (by kernel_rfl) (by kernel_rfl) (fun _ _ _ h => h) (Or.inl ⟨by rfl, ?_⟩) (by assumption) ?_
              rotate_left
              · (intro w hSw; (try dsimp only at hSw); go_simp; try with_reducible rfl)
              try simp only [Act.put, List.setIfInBounds_toArray, List.set_cons_zero, List.set_cons_succ]
              refine wpAnyH_take (i := 38) (oi := { dst := some 136, op := Op.fieldAddr 43 (Operand.tmp 5) 1, type := 0, pos := "laws.go:210", after := #[{ on := 37, ground := Ground.guard }], guard := some (37, true) }) (v := undef) rfl (by kernel_rfl) (by kernel_rfl) (by kernel_rfl) (fun _ _ _ h => h) (Or.inr ⟨by rfl, rfl⟩) (by assumption) ?_
              try simp only [Act.put, List.setIfInBounds_toArray, List.set_cons_zero, List.set_cons_succ]
              refine wpAnyH_take (i := 39) (oi := { dst := some 137, op := Op.load 24 (Operand.tmp 136), type := 24, pos := "laws.go:210", after := #[{ on := 38, ground := Ground.data }, { on := 37, ground := Ground.guard }], guard := some (37, true) }) (v := undef) rfl (by kernel_rfl) (by kernel_rfl) (by kernel_rfl) (fun _ _ _ h => h) (Or.inr ⟨by rfl, rfl⟩) (by assumption) ?_
              try simp only [Act.put, List.setIfInBounds_toArray, List.set_cons_zero, List.set_cons_succ]
              refine wpAnyH_take (i := 40) (oi := { dst := some 138, op := Op.move (Operand.tmp 8), type := 3, pos := "laws.go:210", after := #[{ on := 37, ground := Ground.guard }], guard := some (37, true) }) (v := undef) rfl (by kernel_rfl) (by kernel_rfl) (by kernel_rfl) (fun _ _ _ h => h) (Or.inr ⟨by rfl, rfl⟩) (by assumption) ?_
              try simp only [Act.put, List.setIfInBounds_toArray, List.set_cons_zero, List.set_cons_succ]
              refine wpAnyH_take (i := 41) (oi := { dst := some 139, op := Op.indexAddr 24 (Operand.tmp 137) (Operand.tmp 138), type := 0, pos := "laws.go:210", after := #[{ on := 39, ground := Ground.data }, { on := 40, ground := Ground.data }, { on := 37, ground := Ground.guard }], guard := some (37, true) }) (v := undef) rfl (by kernel_rfl) (by kernel_rfl) (by kernel_rfl) (fun _ _ _ h => h) (Or.inr ⟨by rfl, rfl⟩) (by assumption) ?_
              try simp only [Act.put, List.setIfInBounds_toArray, List.set_cons_zero, List.set_cons_succ]
              refine wpAnyH_take (i := 42) (oi := { dst := some 140, op := Op.load 2 (Operand.tmp 139), type := 2, pos := "laws.go:210", after := #[{ on := 41, ground := Ground.data }, { on := 37, ground := Ground.guard }], guard := some (37, true) }) (v := undef) rfl (by kernel_rfl) (by kernel_rfl) (by kernel_rfl) (fun _ _ _ h => h) (Or.inr ⟨by rfl, rfl⟩) (by assumption) ?_
              try simp only [Act.put, List.setIfInBounds_toArray, List.set_cons_zero, List.set_cons_succ]
              refine wpAnyH_take (i := 43) (oi := { dst := some 141, op := Op.move (Operand.tmp 4), type := 2, pos := "laws.go:210", after := #[{ on := 37, ground := Ground.guard }], guard := some (37, true) }) (v := undef) rfl (by kernel_rfl) (by kernel_rfl) (by kernel_rfl) (fun _ _ _ h => h) (Or.inr ⟨by rfl, rfl⟩) (by assumption) ?_
              try simp only [Act.put, List.setIfInBounds_toArray, List.set_cons_zero, List.set_cons_succ]
              refine wpAnyH_take (i := 44) (oi := { dst := some 142, op := Op.binOp BinOp.lss 2 (Operand.tmp 140) (Operand.tmp 141) 2, type := 4, pos := "laws.go:210", after := #[{ on := 42, ground := Ground.data }, { on := 43, ground := Ground.data }, { on := 37, ground := Ground.guard }], guard := some (37, true) }) (v := undef) rfl (by kernel_rfl) (by kernel_rfl) (by kernel_rfl) (fun _ _ _ h => h) (Or.inr ⟨by rfl, rfl⟩) (by assumption) ?_
              try simp only [Act.put, List.setIfInBounds_toArray, List.set_cons_zero, List.set_cons_succ]
              refine wpAnyH_take (i := 45) (oi := { dst := some 143, op := Op.pick (Operand.tmp 135) (Operand.tmp 142) (Operand.const (Value.bool false)), type := 4, pos := "laws.go:210", after := #[{ on := 37, ground := Ground.data }, { on := 44, ground := Ground.data }, { on := 33, ground := Ground.guard }], guard := some (33, false) }) (v := ?_) rfl (by kernel_rfl) (by kernel_rfl) (by kernel_rfl) (fun _ _ _ h => h) (Or.inl ⟨by rfl, ?_⟩) (by assumption) ?_
              rotate_left
              · (intro w hSw; (try dsimp only at hSw); go_simp; try with_reducible rfl)
              try simp only [Act.put, List.setIfInBounds_toArray, List.set_cons_zero, List.set_cons_succ]
              refine wpAnyH_take (i := 46) (oi := { dst := some 144, op := Op.pick (Operand.tmp 131) (Operand.const (Value.bool true)) (Operand.tmp 143), type := 4, pos := "laws.go:210", after := #[{ on := 33, ground := Ground.data }, { on := 45, ground := Ground.data }], guard := none }) (v := ?_) rfl (by kernel_rfl) (by kernel_rfl) (by kernel_rfl) (fun _ _ _ h => h) (Or.inl ⟨by rfl, ?_⟩) (by assumption) ?_
              rotate_left
              · (intro w hSw; (try dsimp only at hSw); go_simp; try with_reducible rfl)
              try simp only [Act.put, List.setIfInBounds_toArray, List.set_cons_zero, List.set_cons_succ]
              refine wpAnyH_done (by kernel_rfl) ?_ _
              go_wp2
              go_roundw
              case rel => exact ⟨k + 1, _, by omega, by go_num, rfl, XN2, BZ⟩
              case measure => first | omega | (simp [intOf]; omega)
            | false =>
              rcases go with go | go
              · have XN2 := Lib.hid (show true = anyOwn (classesN ts) (k + 1) by rw [XN.out, go]; rfl)
                go_wp2_with fail
                have bz : Below wq.heap.size wq wq.drew := ⟨rfl, rfl, rfl, Nat.le_refl _, fun _ _ => rfl⟩
                replace kEq := kEq.below bz kEq.lt
                replace lc : wq.drew.cell? ⟨bL, offL + k, none⟩ = some (.int .i64 vz) := lc
                have BZ := Lib.hid (below_on BQ.out bz (Nat.le_refl _))
                have hlL : bL < wq.drew.heap.size := World.block_lt_of_cell? _ _ lc
                clear bz
                refine wp_region_held_drew (S := fun w' => w'.cell? ⟨w2.heap.size, 1, none⟩ = some (.slice (some ⟨bL, offL, none⟩) (explL ts b).length c2) ∧ w'.cell? ⟨w2.heap.size, 2, none⟩ = some (.slice A3 (explC ts b).length c3) ∧ w'.cell? ⟨bL, offL + k, none⟩ = some (.int .i64 vz)) (by kernel_rfl) ⟨kEq.cell 1 rfl, kEq.cell 2 rfl, lc⟩ (fun hHeld => ?_)
                refine wpAnyH_take (i := 0) (oi := { dst := some 98, op := Op.fieldAddr 43 (Operand.tmp 5) 1, type := 0, pos := "laws.go:210", after := #[], guard := none }) (v := ?_) rfl (by kernel_rfl) (by kernel_rfl) (by kernel_rfl) (fun _ _ _ h => h) (Or.inl ⟨by rfl, ?_⟩) (by assumption) ?_
                rotate_left
                · (intro w hSw; (try dsimp only at hSw); go_simp; try with_reducible rfl)
                try simp only [Act.put, List.setIfInBounds_toArray, List.set_cons_zero, List.set_cons_succ]
                refine wpAnyH_take (i := 1) (oi := { dst := some 99, op := Op.load 24 (Operand.tmp 98), type := 24, pos := "laws.go:210", after := #[{ on := 0, ground := Ground.data }], guard := none }) (v := ?_) rfl (by kernel_rfl) (by kernel_rfl) (by kernel_rfl) (fun _ _ _ h => h) (Or.inl ⟨by rfl, ?_⟩) (by assumption) ?_
                rotate_left
                · (intro w hSw; (try dsimp only at hSw); go_simp; try with_reducible rfl)
                try simp only [Act.put, List.setIfInBounds_toArray, List.set_cons_zero, List.set_cons_succ]
                refine wpAnyH_take (i := 2) (oi := { dst := some 100, op := Op.call { callee := Callee.builtin Builtin.len, args := #[Operand.tmp 99], argTypes := #[24] }, type := 3, pos := "laws.go:210", after := #[{ on := 1, ground := Ground.data }], guard := none }) (v := ?_) rfl (by kernel_rfl) (by kernel_rfl) (by kernel_rfl) (fun _ _ _ h => h) (Or.inl ⟨by rfl, ?_⟩) (by assumption) ?_
                rotate_left
                · (intro w hSw; (try dsimp only at hSw); go_simp; try with_reducible rfl)
                try simp only [Act.put, List.setIfInBounds_toArray, List.set_cons_zero, List.set_cons_succ]
                refine wpAnyH_take (i := 3) (oi := { dst := some 101, op := Op.move (Operand.tmp 3), type := 24, pos := "laws.go:210", after := #[], guard := none }) (v := ?_) rfl (by kernel_rfl) (by kernel_rfl) (by kernel_rfl) (fun _ _ _ h => h) (Or.inl ⟨by rfl, ?_⟩) (by assumption) ?_
                rotate_left
                · (intro w hSw; (try dsimp only at hSw); go_simp; try with_reducible rfl)
                try simp only [Act.put, List.setIfInBounds_toArray, List.set_cons_zero, List.set_cons_succ]
                refine wpAnyH_take (i := 4) (oi := { dst := some 102, op := Op.call { callee := Callee.builtin Builtin.len, args := #[Operand.tmp 101], argTypes := #[24] }, type := 3, pos := "laws.go:210", after := #[{ on := 3, ground := Ground.data }], guard := none }) (v := ?_) rfl (by kernel_rfl) (by kernel_rfl) (by kernel_rfl) (fun _ _ _ h => h) (Or.inl ⟨by rfl, ?_⟩) (by assumption) ?_
                rotate_left
                · (intro w hSw; (try dsimp only at hSw); go_simp; try with_reducible rfl)
                try simp only [Act.put, List.setIfInBounds_toArray, List.set_cons_zero, List.set_cons_succ]
                refine wpAnyH_take (i := 5) (oi := { dst := some 103, op := Op.binOp BinOp.neq 3 (Operand.tmp 100) (Operand.tmp 102) 3, type := 4, pos := "laws.go:210", after := #[{ on := 2, ground := Ground.data }, { on := 4, ground := Ground.data }], guard := none }) (v := ?_) rfl (by kernel_rfl) (by kernel_rfl) (by kernel_rfl) (fun _ _ _ h => h) (Or.inl ⟨by rfl, ?_⟩) (by assumption) ?_
                rotate_left
                · (intro w hSw; (try dsimp only at hSw); go_simp; try with_reducible rfl)
                try simp only [Act.put, List.setIfInBounds_toArray, List.set_cons_zero, List.set_cons_succ]
                refine wpAnyH_take (i := 6) (oi := { dst := some 104, op := Op.move (Operand.tmp 103), type := 4, pos := "laws.go:210", after := #[{ on := 5, ground := Ground.data }], guard := none }) (v := ?_) rfl (by kernel_rfl) (by kernel_rfl) (by kernel_rfl) (fun _ _ _ h => h) (Or.inl ⟨by rfl, ?_⟩) (by assumption) ?_
                rotate_left
                · (intro w hSw; (try dsimp only at hSw); go_simp; try with_reducible rfl)
                try simp only [Act.put, List.setIfInBounds_toArray, List.set_cons_zero, List.set_cons_succ]
                refine wpAnyH_take (i := 7) (oi := { dst := some 105, op := Op.fieldAddr 43 (Operand.tmp 5) 2, type := 0, pos := "laws.go:210", after := #[{ on := 6, ground := Ground.guard }], guard := some (6, false) }) (v := ?_) rfl (by kernel_rfl) (by kernel_rfl) (by kernel_rfl) (fun _ _ _ h => h) (Or.inl ⟨by rfl, ?_⟩) (by assumption) ?_
                rotate_left
                · (intro w hSw; (try dsimp only at hSw); go_simp; try with_reducible rfl)
                try simp only [Act.put, List.setIfInBounds_toArray, List.set_cons_zero, List.set_cons_succ]
                refine wpAnyH_take (i := 8) (oi := { dst := some 106, op := Op.load 24 (Operand.tmp 105), type := 24, pos := "laws.go:210", after := #[{ on := 7, ground := Ground.data }, { on := 6, ground := Ground.guard }], guard := some (6, false) }) (v := ?_) rfl (by kernel_rfl) (by kernel_rfl) (by kernel_rfl) (fun _ _ _ h => h) (Or.inl ⟨by rfl, ?_⟩) (by assumption) ?_
                rotate_left
                · (intro w hSw; (try dsimp only at hSw); go_simp; try with_reducible rfl)
                try simp only [Act.put, List.setIfInBounds_toArray, List.set_cons_zero, List.set_cons_succ]
                refine wpAnyH_take (i := 9) (oi := { dst := some 107, op := Op.call { callee := Callee.builtin Builtin.len, args := #[Operand.tmp 106], argTypes := #[24] }, type := 3, pos := "laws.go:210", after := #[{ on := 8, ground := Ground.data }, { on := 6, ground := Ground.guard }], guard := some (6, false) }) (v := ?_) rfl (by kernel_rfl) (by kernel_rfl) (by kernel_rfl) (fun _ _ _ h => h) (Or.inl ⟨by rfl, ?_⟩) (by assumption) ?_
                rotate_left
                · (intro w hSw; (try dsimp only at hSw); go_simp; try with_reducible rfl)
                try simp only [Act.put, List.setIfInBounds_toArray, List.set_cons_zero, List.set_cons_succ]
                refine wpAnyH_take (i := 10) (oi := { dst := some 108, op := Op.move (Operand.tmp 3), type := 24, pos := "laws.go:210", after := #[{ on := 6, ground := Ground.guard }], guard := some (6, false) }) (v := ?_) rfl (by kernel_rfl) (by kernel_rfl) (by kernel_rfl) (fun _ _ _ h => h) (Or.inl ⟨by rfl, ?_⟩) (by assumption) ?_
                rotate_left
                · (intro w hSw; (try dsimp only at hSw); go_simp; try with_reducible rfl)
                try simp only [Act.put, List.setIfInBounds_toArray, List.set_cons_zero, List.set_cons_succ]
                refine wpAnyH_take (i := 11) (oi := { dst := some 109, op := Op.call { callee := Callee.builtin Builtin.len, args := #[Operand.tmp 108], argTypes := #[24] }, type := 3, pos := "laws.go:210", after := #[{ on := 10, ground := Ground.data }, { on := 6, ground := Ground.guard }], guard := some (6, false) }) (v := ?_) rfl (by kernel_rfl) (by kernel_rfl) (by kernel_rfl) (fun _ _ _ h => h) (Or.inl ⟨by rfl, ?_⟩) (by assumption) ?_
                rotate_left
                · (intro w hSw; (try dsimp only at hSw); go_simp; try with_reducible rfl)
                try simp only [Act.put, List.setIfInBounds_toArray, List.set_cons_zero, List.set_cons_succ]
                refine wpAnyH_take (i := 12) (oi := { dst := some 110, op := Op.binOp BinOp.neq 3 (Operand.tmp 107) (Operand.tmp 109) 3, type := 4, pos := "laws.go:210", after := #[{ on := 9, ground := Ground.data }, { on := 11, ground := Ground.data }, { on := 6, ground := Ground.guard }], guard := some (6, false) }) (v := ?_) rfl (by kernel_rfl) (by kernel_rfl) (by kernel_rfl) (fun _ _ _ h => h) (Or.inl ⟨by rfl, ?_⟩) (by assumption) ?_
                rotate_left
                · (intro w hSw; (try dsimp only at hSw); go_simp; try with_reducible rfl)
                try simp only [Act.put, List.setIfInBounds_toArray, List.set_cons_zero, List.set_cons_succ]
                refine wpAnyH_take (i := 13) (oi := { dst := some 111, op := Op.pick (Operand.tmp 104) (Operand.const (Value.bool true)) (Operand.tmp 110), type := 4, pos := "laws.go:210", after := #[{ on := 6, ground := Ground.data }, { on := 12, ground := Ground.data }], guard := none }) (v := ?_) rfl (by kernel_rfl) (by kernel_rfl) (by kernel_rfl) (fun _ _ _ h => h) (Or.inl ⟨by rfl, ?_⟩) (by assumption) ?_
                rotate_left
                · (intro w hSw; (try dsimp only at hSw); go_simp; try with_reducible rfl)
                try simp only [Act.put, List.setIfInBounds_toArray, List.set_cons_zero, List.set_cons_succ]
                refine wpAnyH_take (i := 14) (oi := { dst := some 112, op := Op.move (Operand.tmp 111), type := 4, pos := "laws.go:210", after := #[{ on := 13, ground := Ground.data }, { on := 6, ground := Ground.chain }], guard := none }) (v := ?_) rfl (by kernel_rfl) (by kernel_rfl) (by kernel_rfl) (fun _ _ _ h => h) (Or.inl ⟨by rfl, ?_⟩) (by assumption) ?_
                rotate_left
                · (intro w hSw; (try dsimp only at hSw); go_simp; try with_reducible rfl)
                try simp only [Act.put, List.setIfInBounds_toArray, List.set_cons_zero, List.set_cons_succ]
                refine wpAnyH_take (i := 15) (oi := { dst := some 113, op := Op.move (Operand.tmp 9), type := 2, pos := "laws.go:210", after := #[{ on := 14, ground := Ground.guard }], guard := some (14, false) }) (v := ?_) rfl (by kernel_rfl) (by kernel_rfl) (by kernel_rfl) (fun _ _ _ h => h) (Or.inl ⟨by rfl, ?_⟩) (by assumption) ?_
                rotate_left
                · (intro w hSw; (try dsimp only at hSw); go_simp; try with_reducible rfl)
                try simp only [Act.put, List.setIfInBounds_toArray, List.set_cons_zero, List.set_cons_succ]
                refine wpAnyH_take (i := 17) (oi := { dst := some 115, op := Op.fieldAddr 43 (Operand.tmp 5) 1, type := 0, pos := "laws.go:210", after := #[{ on := 14, ground := Ground.guard }], guard := some (14, false) }) (v := ?_) rfl (by kernel_rfl) (by kernel_rfl) (by kernel_rfl) (fun _ _ _ h => h) (Or.inl ⟨by rfl, ?_⟩) (by assumption) ?_
                rotate_left
                · (intro w hSw; (try dsimp only at hSw); go_simp; try with_reducible rfl)
                try simp only [Act.put, List.setIfInBounds_toArray, List.set_cons_zero, List.set_cons_succ]
                refine wpAnyH_take (i := 18) (oi := { dst := some 116, op := Op.load 24 (Operand.tmp 115), type := 24, pos := "laws.go:210", after := #[{ on := 17, ground := Ground.data }, { on := 14, ground := Ground.guard }], guard := some (14, false) }) (v := ?_) rfl (by kernel_rfl) (by kernel_rfl) (by kernel_rfl) (fun _ _ _ h => h) (Or.inl ⟨by rfl, ?_⟩) (by assumption) ?_
                rotate_left
                · (intro w hSw; (try dsimp only at hSw); go_simp; try with_reducible rfl)
                try simp only [Act.put, List.setIfInBounds_toArray, List.set_cons_zero, List.set_cons_succ]
                refine wpAnyH_take (i := 19) (oi := { dst := some 117, op := Op.move (Operand.tmp 8), type := 3, pos := "laws.go:210", after := #[{ on := 14, ground := Ground.guard }], guard := some (14, false) }) (v := ?_) rfl (by kernel_rfl) (by kernel_rfl) (by kernel_rfl) (fun _ _ _ h => h) (Or.inl ⟨by rfl, ?_⟩) (by assumption) ?_
                rotate_left
                · (intro w hSw; (try dsimp only at hSw); go_simp; try with_reducible rfl)
                try simp only [Act.put, List.setIfInBounds_toArray, List.set_cons_zero, List.set_cons_succ]
                refine wpAnyH_take (i := 20) (oi := { dst := some 118, op := Op.indexAddr 24 (Operand.tmp 116) (Operand.tmp 117), type := 0, pos := "laws.go:210", after := #[{ on := 18, ground := Ground.data }, { on := 19, ground := Ground.data }, { on := 14, ground := Ground.guard }], guard := some (14, false) }) (v := ?_) rfl (by kernel_rfl) (by kernel_rfl) (by kernel_rfl) (fun _ _ _ h => h) (Or.inl ⟨by rfl, ?_⟩) (by assumption) ?_
                rotate_left
                · (intro w hSw; (try dsimp only at hSw); go_simp; try with_reducible rfl)
                try simp only [Act.put, List.setIfInBounds_toArray, List.set_cons_zero, List.set_cons_succ]
                refine wpAnyH_take (i := 21) (oi := { dst := some 119, op := Op.load 2 (Operand.tmp 118), type := 2, pos := "laws.go:210", after := #[{ on := 20, ground := Ground.data }, { on := 14, ground := Ground.guard }], guard := some (14, false) }) (v := ?_) rfl (by kernel_rfl) (by kernel_rfl) (by kernel_rfl) (fun _ _ _ h => h) (Or.inl ⟨by rfl, ?_⟩) (by assumption) ?_
                rotate_left
                · (intro w hSw; (try dsimp only at hSw); go_simp; try with_reducible rfl)
                try simp only [Act.put, List.setIfInBounds_toArray, List.set_cons_zero, List.set_cons_succ]
                refine wpAnyH_take (i := 22) (oi := { dst := some 120, op := Op.binOp BinOp.eql 2 (Operand.tmp 119) (Operand.const (Value.int IntKind.i64 (-1))) 2, type := 4, pos := "laws.go:210", after := #[{ on := 21, ground := Ground.data }, { on := 14, ground := Ground.guard }], guard := some (14, false) }) (v := ?_) rfl (by kernel_rfl) (by kernel_rfl) (by kernel_rfl) (fun _ _ _ h => h) (Or.inl ⟨by rfl, ?_⟩) (by assumption) ?_
                rotate_left
                · (intro w hSw; (try dsimp only at hSw); go_simp; try with_reducible rfl)
                try simp only [Act.put, List.setIfInBounds_toArray, List.set_cons_zero, List.set_cons_succ]
                refine wpAnyH_ready (rs := [16]) (by kernel_rfl) (by simp) ?_
                refine AllReadyH.cons (o := { dst := some 114, op := Op.call { callee := Callee.value (Operand.func 35), args := #[Operand.tmp 113], argTypes := #[2] }, type := 4, pos := "laws.go:210", after := #[{ on := 15, ground := Ground.data }, { on := 14, ground := Ground.chain }, { on := 14, ground := Ground.guard }], guard := some (14, false) }) rfl (fun K hK => ?_) AllReadyH.nil
                go_simp
                go_at_call 35
                refine (isGone_any qz _).mono ?_
                rintro e wA ⟨rfl, bA⟩
                have qbA : Below wq.drew.heap.size wq.drew wA := ⟨bA.os, bA.tape, bA.output, bA.size, bA.block⟩
                replace kEq := kEq.below qbA kEq.lt
                replace lc := (qbA.cell (p := ⟨bL, offL + k, none⟩) hlL).trans lc
                replace hlL := Nat.lt_of_lt_of_le hlL qbA.size
                replace BZ := Lib.hid (below_on BZ.out qbA (Nat.le_refl _))
                clear bA qbA
                rw [RB.out]
                try dsimp only
                refine hK.out _ _ ⟨kEq.cell 1 rfl, kEq.cell 2 rfl, lc⟩ (fun hHeld => ?_)
                clear hK K
                try simp only [Act.put, List.setIfInBounds_toArray, List.set_cons_zero, List.set_cons_succ]
                refine wpAnyH_take (i := 23) (oi := { dst := some 121, op := Op.binOp BinOp.neq 4 (Operand.tmp 114) (Operand.tmp 120) 4, type := 4, pos := "laws.go:210", after := #[{ on := 16, ground := Ground.data }, { on := 22, ground := Ground.data }, { on := 14, ground := Ground.guard }], guard := some (14, false) }) (v := ?_) rfl (by kernel_rfl) (by kernel_rfl) (by kernel_rfl) (fun _ _ _ h => h) (Or.inl ⟨by rfl, ?_⟩) (by assumption) ?_
                rotate_left
                · (intro w hSw; (try dsimp only at hSw); go_simp; try with_reducible rfl)
                try simp only [Act.put, List.setIfInBounds_toArray, List.set_cons_zero, List.set_cons_succ]
                refine wpAnyH_take (i := 24) (oi := { dst := some 122, op := Op.pick (Operand.tmp 112) (Operand.const (Value.bool true)) (Operand.tmp 121), type := 4, pos := "laws.go:210", after := #[{ on := 14, ground := Ground.data }, { on := 23, ground := Ground.data }], guard := none }) (v := ?_) rfl (by kernel_rfl) (by kernel_rfl) (by kernel_rfl) (fun _ _ _ h => h) (Or.inl ⟨by rfl, ?_⟩) (by assumption) ?_
                rotate_left
                · (intro w hSw; (try dsimp only at hSw); go_simp; try with_reducible rfl)
                try simp only [Act.put, List.setIfInBounds_toArray, List.set_cons_zero, List.set_cons_succ]
                refine wpAnyH_take (i := 25) (oi := { dst := some 123, op := Op.move (Operand.tmp 122), type := 4, pos := "laws.go:210", after := #[{ on := 24, ground := Ground.data }, { on := 16, ground := Ground.chain }], guard := none }) (v := ?_) rfl (by kernel_rfl) (by kernel_rfl) (by kernel_rfl) (fun _ _ _ h => h) (Or.inl ⟨by rfl, ?_⟩) (by assumption) ?_
                rotate_left
                · (intro w hSw; (try dsimp only at hSw); go_simp; try with_reducible rfl)
                try simp only [Act.put, List.setIfInBounds_toArray, List.set_cons_zero, List.set_cons_succ]
                refine wpAnyH_take (i := 26) (oi := { dst := some 124, op := Op.fieldAddr 43 (Operand.tmp 5) 1, type := 0, pos := "laws.go:210", after := #[{ on := 25, ground := Ground.guard }], guard := some (25, false) }) (v := ?_) rfl (by kernel_rfl) (by kernel_rfl) (by kernel_rfl) (fun _ _ _ h => h) (Or.inl ⟨by rfl, ?_⟩) (by assumption) ?_
                rotate_left
                · (intro w hSw; (try dsimp only at hSw); go_simp; try with_reducible rfl)
                try simp only [Act.put, List.setIfInBounds_toArray, List.set_cons_zero, List.set_cons_succ]
                refine wpAnyH_take (i := 27) (oi := { dst := some 125, op := Op.load 24 (Operand.tmp 124), type := 24, pos := "laws.go:210", after := #[{ on := 26, ground := Ground.data }, { on := 25, ground := Ground.guard }], guard := some (25, false) }) (v := ?_) rfl (by kernel_rfl) (by kernel_rfl) (by kernel_rfl) (fun _ _ _ h => h) (Or.inl ⟨by rfl, ?_⟩) (by assumption) ?_
                rotate_left
                · (intro w hSw; (try dsimp only at hSw); go_simp; try with_reducible rfl)
                try simp only [Act.put, List.setIfInBounds_toArray, List.set_cons_zero, List.set_cons_succ]
                refine wpAnyH_take (i := 28) (oi := { dst := some 126, op := Op.move (Operand.tmp 8), type := 3, pos := "laws.go:210", after := #[{ on := 25, ground := Ground.guard }], guard := some (25, false) }) (v := ?_) rfl (by kernel_rfl) (by kernel_rfl) (by kernel_rfl) (fun _ _ _ h => h) (Or.inl ⟨by rfl, ?_⟩) (by assumption) ?_
                rotate_left
                · (intro w hSw; (try dsimp only at hSw); go_simp; try with_reducible rfl)
                try simp only [Act.put, List.setIfInBounds_toArray, List.set_cons_zero, List.set_cons_succ]
                refine wpAnyH_take (i := 29) (oi := { dst := some 127, op := Op.indexAddr 24 (Operand.tmp 125) (Operand.tmp 126), type := 0, pos := "laws.go:210", after := #[{ on := 27, ground := Ground.data }, { on := 28, ground := Ground.data }, { on := 25, ground := Ground.guard }], guard := some (25, false) }) (v := ?_) rfl (by kernel_rfl) (by kernel_rfl) (by kernel_rfl) (fun _ _ _ h => h) (Or.inl ⟨by rfl, ?_⟩) (by assumption) ?_
                rotate_left
                · (intro w hSw; (try dsimp only at hSw); go_simp; try with_reducible rfl)
                try simp only [Act.put, List.setIfInBounds_toArray, List.set_cons_zero, List.set_cons_succ]
                refine wpAnyH_take (i := 30) (oi := { dst := some 128, op := Op.load 2 (Operand.tmp 127), type := 2, pos := "laws.go:210", after := #[{ on := 29, ground := Ground.data }, { on := 25, ground := Ground.guard }], guard := some (25, false) }) (v := ?_) rfl (by kernel_rfl) (by kernel_rfl) (by kernel_rfl) (fun _ _ _ h => h) (Or.inl ⟨by rfl, ?_⟩) (by assumption) ?_
                rotate_left
                · (intro w hSw; (try dsimp only at hSw); go_simp; try with_reducible rfl)
                try simp only [Act.put, List.setIfInBounds_toArray, List.set_cons_zero, List.set_cons_succ]
                refine wpAnyH_take (i := 31) (oi := { dst := some 129, op := Op.binOp BinOp.gtr 2 (Operand.tmp 128) (Operand.const (Value.int IntKind.i64 125)) 2, type := 4, pos := "laws.go:210", after := #[{ on := 30, ground := Ground.data }, { on := 25, ground := Ground.guard }], guard := some (25, false) }) (v := ?_) rfl (by kernel_rfl) (by kernel_rfl) (by kernel_rfl) (fun _ _ _ h => h) (Or.inl ⟨by rfl, ?_⟩) (by assumption) ?_
                rotate_left
                · (intro w hSw; (try dsimp only at hSw); go_simp; try with_reducible rfl)
                try simp only [Act.put, List.setIfInBounds_toArray, List.set_cons_zero, List.set_cons_succ]
                refine wpAnyH_take (i := 32) (oi := { dst := some 130, op := Op.pick (Operand.tmp 123) (Operand.const (Value.bool true)) (Operand.tmp 129), type := 4, pos := "laws.go:210", after := #[{ on := 25, ground := Ground.data }, { on := 31, ground := Ground.data }], guard := none }) (v := ?_) rfl (by kernel_rfl) (by kernel_rfl) (by kernel_rfl) (fun _ _ _ h => h) (Or.inl ⟨by rfl, ?_⟩) (by assumption) ?_
                rotate_left
                · (intro w hSw; (try dsimp only at hSw); go_simp; try with_reducible rfl)
                try simp only [Act.put, List.setIfInBounds_toArray, List.set_cons_zero, List.set_cons_succ]
                refine wpAnyH_take (i := 33) (oi := { dst := some 131, op := Op.move (Operand.tmp 130), type := 4, pos := "laws.go:210", after := #[{ on := 32, ground := Ground.data }, { on := 25, ground := Ground.chain }], guard := none }) (v := ?_) rfl (by kernel_rfl) (by kernel_rfl) (by kernel_rfl) (fun _ _ _ h => h) (Or.inl ⟨by rfl, ?_⟩) (by assumption) ?_
                rotate_left
                · (intro w hSw; (try dsimp only at hSw); go_simp; try with_reducible rfl)
                try simp only [Act.put, List.setIfInBounds_toArray, List.set_cons_zero, List.set_cons_succ]
                refine wpAnyH_take (i := 34) (oi := { dst := some 132, op := Op.move (Operand.tmp 9), type := 2, pos := "laws.go:210", after := #[{ on := 33, ground := Ground.guard }], guard := some (33, false) }) (v := ?_) rfl (by kernel_rfl) (by kernel_rfl) (by kernel_rfl) (fun _ _ _ h => h) (Or.inl ⟨by rfl, ?_⟩) (by assumption) ?_
                rotate_left
                · (intro w hSw; (try dsimp only at hSw); go_simp; try with_reducible rfl)
                try simp only [Act.put, List.setIfInBounds_toArray, List.set_cons_zero, List.set_cons_succ]
                refine wpAnyH_ready (rs := [35]) (by kernel_rfl) (by simp) ?_
                refine AllReadyH.cons (o := { dst := some 133, op := Op.call { callee := Callee.value (Operand.func 35), args := #[Operand.tmp 132], argTypes := #[2] }, type := 4, pos := "laws.go:210", after := #[{ on := 34, ground := Ground.data }, { on := 33, ground := Ground.chain }, { on := 33, ground := Ground.guard }], guard := some (33, false) }) rfl (fun K hK => ?_) AllReadyH.nil
                go_simp
                go_at_call 35
                refine (isGone_any qz _).mono ?_
                rintro e wB ⟨rfl, bB⟩
                have qbB : Below wA.heap.size wA wB := ⟨bB.os, bB.tape, bB.output, bB.size, bB.block⟩
                replace kEq := kEq.below qbB kEq.lt
                replace lc := (qbB.cell (p := ⟨bL, offL + k, none⟩) hlL).trans lc
                replace hlL := Nat.lt_of_lt_of_le hlL qbB.size
                replace BZ := Lib.hid (below_on BZ.out qbB (Nat.le_refl _))
                clear bB qbB
                rw [RB.out]
                try dsimp only
                refine hK.out _ _ ⟨kEq.cell 1 rfl, kEq.cell 2 rfl, lc⟩ (fun hHeld => ?_)
                clear hK K
                try simp only [Act.put, List.setIfInBounds_toArray, List.set_cons_zero, List.set_cons_succ]
                refine wpAnyH_take (i := 36) (oi := { dst := some 134, op := Op.unOp UnOp.not 4 (Operand.tmp 133), type := 4, pos := "laws.go:210", after := #[{ on := 35, ground := Ground.data }, { on := 33, ground := Ground.guard }], guard := some (33, false) }) (v := ?_) rfl (by kernel_rfl) (by kernel_rfl) (by kernel_rfl) (fun _ _ _ h => h) (Or.inl ⟨by rfl, ?_⟩) (by assumption) ?_
                rotate_left
                · (intro w hSw; (try dsimp only at hSw); go_simp; try with_reducible rfl)
                try simp only [Act.put, List.setIfInBounds_toArray, List.set_cons_zero, List.set_cons_succ]
                refine wpAnyH_take (i := 37) (oi := { dst := some 135, op := Op.move (Operand.tmp 134), type := 4, pos := "laws.go:210", after := #[{ on := 36, ground := Ground.data }, { on := 35, ground := Ground.chain }, { on := 33, ground := Ground.guard }], guard := some (33, false) }) (v := ?_) rfl (by kernel_rfl) (by kernel_rfl) (by kernel_rfl) (fun _ _ _ h => h) (Or.inl ⟨by rfl, ?_⟩) (by assumption) ?_
                rotate_left
                · (intro w hSw; (try dsimp only at hSw); go_simp; try with_reducible rfl)
                try simp only [Act.put, List.setIfInBounds_toArray, List.set_cons_zero, List.set_cons_succ]
                refine wpAnyH_take (i := 38) (oi := { dst := some 136, op := Op.fieldAddr 43 (Operand.tmp 5) 1, type := 0, pos := "laws.go:210", after := #[{ on := 37, ground := Ground.guard }], guard := some (37, true) }) (v := undef) rfl (by kernel_rfl) (by kernel_rfl) (by kernel_rfl) (fun _ _ _ h => h) (Or.inr ⟨by rfl, rfl⟩) (by assumption) ?_
                try simp only [Act.put, List.setIfInBounds_toArray, List.set_cons_zero, List.set_cons_succ]
                refine wpAnyH_take (i := 39) (oi := { dst := some 137, op := Op.load 24 (Operand.tmp 136), type := 24, pos := "laws.go:210", after := #[{ on := 38, ground := Ground.data }, { on := 37, ground := Ground.guard }], guard := some (37, true) }) (v := undef) rfl (by kernel_rfl) (by kernel_rfl) (by kernel_rfl) (fun _ _ _ h => h) (Or.inr ⟨by rfl, rfl⟩) (by assumption) ?_
                try simp only [Act.put, List.setIfInBounds_toArray, List.set_cons_zero, List.set_cons_succ]
                refine wpAnyH_take (i := 40) (oi := { dst := some 138, op := Op.move (Operand.tmp 8), type := 3, pos := "laws.go:210", after := #[{ on := 37, ground := Ground.guard }], guard := some (37, true) }) (v := undef) rfl (by kernel_rfl) (by kernel_rfl) (by kernel_rfl) (fun _ _ _ h => h) (Or.inr ⟨by rfl, rfl⟩) (by assumption) ?_
                try simp only [Act.put, List.setIfInBounds_toArray, List.set_cons_zero, List.set_cons_succ]
                refine wpAnyH_take (i := 41) (oi := { dst := some 139, op := Op.indexAddr 24 (Operand.tmp 137) (Operand.tmp 138), type := 0, pos := "laws.go:210", after := #[{ on := 39, ground := Ground.data }, { on := 40, ground := Ground.data }, { on := 37, ground := Ground.guard }], guard := some (37, true) }) (v := undef) rfl (by kernel_rfl) (by kernel_rfl) (by kernel_rfl) (fun _ _ _ h => h) (Or.inr ⟨by rfl, rfl⟩) (by assumption) ?_
                try simp only [Act.put, List.setIfInBounds_toArray, List.set_cons_zero, List.set_cons_succ]
                refine wpAnyH_take (i := 42) (oi := { dst := some 140, op := Op.load 2 (Operand.tmp 139), type := 2, pos := "laws.go:210", after := #[{ on := 41, ground := Ground.data }, { on := 37, ground := Ground.guard }], guard := some (37, true) }) (v := undef) rfl (by kernel_rfl) (by kernel_rfl) (by kernel_rfl) (fun _ _ _ h => h) (Or.inr ⟨by rfl, rfl⟩) (by assumption) ?_
                try simp only [Act.put, List.setIfInBounds_toArray, List.set_cons_zero, List.set_cons_succ]
                refine wpAnyH_take (i := 43) (oi := { dst := some 141, op := Op.move (Operand.tmp 4), type := 2, pos := "laws.go:210", after := #[{ on := 37, ground := Ground.guard }], guard := some (37, true) }) (v := undef) rfl (by kernel_rfl) (by kernel_rfl) (by kernel_rfl) (fun _ _ _ h => h) (Or.inr ⟨by rfl, rfl⟩) (by assumption) ?_
                try simp only [Act.put, List.setIfInBounds_toArray, List.set_cons_zero, List.set_cons_succ]
                refine wpAnyH_take (i := 44) (oi := { dst := some 142, op := Op.binOp BinOp.lss 2 (Operand.tmp 140) (Operand.tmp 141) 2, type := 4, pos := "laws.go:210", after := #[{ on := 42, ground := Ground.data }, { on := 43, ground := Ground.data }, { on := 37, ground := Ground.guard }], guard := some (37, true) }) (v := undef) rfl (by kernel_rfl) (by kernel_rfl) (by kernel_rfl) (fun _ _ _ h => h) (Or.inr ⟨by rfl, rfl⟩) (by assumption) ?_
                try simp only [Act.put, List.setIfInBounds_toArray, List.set_cons_zero, List.set_cons_succ]
                refine wpAnyH_take (i := 45) (oi := { dst := some 143, op := Op.pick (Operand.tmp 135) (Operand.tmp 142) (Operand.const (Value.bool false)), type := 4, pos := "laws.go:210", after := #[{ on := 37, ground := Ground.data }, { on := 44, ground := Ground.data }, { on := 33, ground := Ground.guard }], guard := some (33, false) }) (v := ?_) rfl (by kernel_rfl) (by kernel_rfl) (by kernel_rfl) (fun _ _ _ h => h) (Or.inl ⟨by rfl, ?_⟩) (by assumption) ?_
                rotate_left
                · (intro w hSw; (try dsimp only at hSw); go_simp; try with_reducible rfl)
                try simp only [Act.put, List.setIfInBounds_toArray, List.set_cons_zero, List.set_cons_succ]
                refine wpAnyH_take (i := 46) (oi := { dst := some 144, op := Op.pick (Operand.tmp 131) (Operand.const (Value.bool true)) (Operand.tmp 143), type := 4, pos := "laws.go:210", after := #[{ on := 33, ground := Ground.data }, { on := 45, ground := Ground.data }], guard := none }) (v := ?_) rfl (by kernel_rfl) (by kernel_rfl) (by kernel_rfl) (fun _ _ _ h => h) (Or.inl ⟨by rfl, ?_⟩) (by assumption) ?_
                rotate_left
                · (intro w hSw; (try dsimp only at hSw); go_simp; try with_reducible rfl)
                try simp only [Act.put, List.setIfInBounds_toArray, List.set_cons_zero, List.set_cons_succ]
                refine wpAnyH_done (by kernel_rfl) ?_ _
                go_wp2
                go_roundw
                case rel => exact ⟨k + 1, _, by omega, by go_num, rfl, XN2, BZ⟩
                case measure => first | omega | (simp [intOf]; omega)
              · have XN2 := Lib.hid (show false = anyOwn (classesN ts) (k + 1) by rw [XN.out, go]; rfl)
                go_wp2_with fail
                have bz : Below wq.heap.size wq wq.drew := ⟨rfl, rfl, rfl, Nat.le_refl _, fun _ _ => rfl⟩
                replace kEq := kEq.below bz kEq.lt
                replace lc : wq.drew.cell? ⟨bL, offL + k, none⟩ = some (.int .i64 vz) := lc
                have BZ := Lib.hid (below_on BQ.out bz (Nat.le_refl _))
                have hlL : bL < wq.drew.heap.size := World.block_lt_of_cell? _ _ lc
                clear bz
                refine wp_region_held_drew (S := fun w' => w'.cell? ⟨w2.heap.size, 1, none⟩ = some (.slice (some ⟨bL, offL, none⟩) (explL ts b).length c2) ∧ w'.cell? ⟨w2.heap.size, 2, none⟩ = some (.slice A3 (explC ts b).length c3) ∧ w'.cell? ⟨bL, offL + k, none⟩ = some (.int .i64 vz)) (by kernel_rfl) ⟨kEq.cell 1 rfl, kEq.cell 2 rfl, lc⟩ (fun hHeld => ?_)
                refine wpAnyH_take (i := 0) (oi := { dst := some 98, op := Op.fieldAddr 43 (Operand.tmp 5) 1, type := 0, pos := "laws.go:210", after := #[], guard := none }) (v := ?_) rfl (by kernel_rfl) (by kernel_rfl) (by kernel_rfl) (fun _ _ _ h => h) (Or.inl ⟨by rfl, ?_⟩) (by assumption) ?_
                rotate_left
                · (intro w hSw; (try dsimp only at hSw); go_simp; try with_reducible rfl)
                try simp only [Act.put, List.setIfInBounds_toArray, List.set_cons_zero, List.set_cons_succ]
                refine wpAnyH_take (i := 1) (oi := { dst := some 99, op := Op.load 24 (Operand.tmp 98), type := 24, pos := "laws.go:210", after := #[{ on := 0, ground := Ground.data }], guard := none }) (v := ?_) rfl (by kernel_rfl) (by kernel_rfl) (by kernel_rfl) (fun _ _ _ h => h) (Or.inl ⟨by rfl, ?_⟩) (by assumption) ?_
                rotate_left
                · (intro w hSw; (try dsimp only at hSw); go_simp; try with_reducible rfl)
                try simp only [Act.put, List.setIfInBounds_toArray, List.set_cons_zero, List.set_cons_succ]
                refine wpAnyH_take (i := 2) (oi := { dst := some 100, op := Op.call { callee := Callee.builtin Builtin.len, args := #[Operand.tmp 99], argTypes := #[24] }, type := 3, pos := "laws.go:210", after := #[{ on := 1, ground := Ground.data }], guard := none }) (v := ?_) rfl (by kernel_rfl) (by kernel_rfl) (by kernel_rfl) (fun _ _ _ h => h) (Or.inl ⟨by rfl, ?_⟩) (by assumption) ?_
                rotate_left
                · (intro w hSw; (try dsimp only at hSw); go_simp; try with_reducible rfl)
                try simp only [Act.put, List.setIfInBounds_toArray, List.set_cons_zero, List.set_cons_succ]
                refine wpAnyH_take (i := 3) (oi := { dst := some 101, op := Op.move (Operand.tmp 3), type := 24, pos := "laws.go:210", after := #[], guard := none }) (v := ?_) rfl (by kernel_rfl) (by kernel_rfl) (by kernel_rfl) (fun _ _ _ h => h) (Or.inl ⟨by rfl, ?_⟩) (by assumption) ?_
                rotate_left
                · (intro w hSw; (try dsimp only at hSw); go_simp; try with_reducible rfl)
                try simp only [Act.put, List.setIfInBounds_toArray, List.set_cons_zero, List.set_cons_succ]
                refine wpAnyH_take (i := 4) (oi := { dst := some 102, op := Op.call { callee := Callee.builtin Builtin.len, args := #[Operand.tmp 101], argTypes := #[24] }, type := 3, pos := "laws.go:210", after := #[{ on := 3, ground := Ground.data }], guard := none }) (v := ?_) rfl (by kernel_rfl) (by kernel_rfl) (by kernel_rfl) (fun _ _ _ h => h) (Or.inl ⟨by rfl, ?_⟩) (by assumption) ?_
                rotate_left
                · (intro w hSw; (try dsimp only at hSw); go_simp; try with_reducible rfl)
                try simp only [Act.put, List.setIfInBounds_toArray, List.set_cons_zero, List.set_cons_succ]
                refine wpAnyH_take (i := 5) (oi := { dst := some 103, op := Op.binOp BinOp.neq 3 (Operand.tmp 100) (Operand.tmp 102) 3, type := 4, pos := "laws.go:210", after := #[{ on := 2, ground := Ground.data }, { on := 4, ground := Ground.data }], guard := none }) (v := ?_) rfl (by kernel_rfl) (by kernel_rfl) (by kernel_rfl) (fun _ _ _ h => h) (Or.inl ⟨by rfl, ?_⟩) (by assumption) ?_
                rotate_left
                · (intro w hSw; (try dsimp only at hSw); go_simp; try with_reducible rfl)
                try simp only [Act.put, List.setIfInBounds_toArray, List.set_cons_zero, List.set_cons_succ]
                refine wpAnyH_take (i := 6) (oi := { dst := some 104, op := Op.move (Operand.tmp 103), type := 4, pos := "laws.go:210", after := #[{ on := 5, ground := Ground.data }], guard := none }) (v := ?_) rfl (by kernel_rfl) (by kernel_rfl) (by kernel_rfl) (fun _ _ _ h => h) (Or.inl ⟨by rfl, ?_⟩) (by assumption) ?_
                rotate_left
                · (intro w hSw; (try dsimp only at hSw); go_simp; try with_reducible rfl)
                try simp only [Act.put, List.setIfInBounds_toArray, List.set_cons_zero, List.set_cons_succ]
                refine wpAnyH_take (i := 7) (oi := { dst := some 105, op := Op.fieldAddr 43 (Operand.tmp 5) 2, type := 0, pos := "laws.go:210", after := #[{ on := 6, ground := Ground.guard }], guard := some (6, false) }) (v := ?_) rfl (by kernel_rfl) (by kernel_rfl) (by kernel_rfl) (fun _ _ _ h => h) (Or.inl ⟨by rfl, ?_⟩) (by assumption) ?_
                rotate_left
                · (intro w hSw; (try dsimp only at hSw); go_simp; try with_reducible rfl)
                try simp only [Act.put, List.setIfInBounds_toArray, List.set_cons_zero, List.set_cons_succ]
                refine wpAnyH_take (i := 8) (oi := { dst := some 106, op := Op.load 24 (Operand.tmp 105), type := 24, pos := "laws.go:210", after := #[{ on := 7, ground := Ground.data }, { on := 6, ground := Ground.guard }], guard := some (6, false) }) (v := ?_) rfl (by kernel_rfl) (by kernel_rfl) (by kernel_rfl) (fun _ _ _ h => h) (Or.inl ⟨by rfl, ?_⟩) (by assumption) ?_
                rotate_left
                · (intro w hSw; (try dsimp only at hSw); go_simp; try with_reducible rfl)
                try simp only [Act.put, List.setIfInBounds_toArray, List.set_cons_zero, List.set_cons_succ]
                refine wpAnyH_take (i := 9) (oi := { dst := some 107, op := Op.call { callee := Callee.builtin Builtin.len, args := #[Operand.tmp 106], argTypes := #[24] }, type := 3, pos := "laws.go:210", after := #[{ on := 8, ground := Ground.data }, { on := 6, ground := Ground.guard }], guard := some (6, false) }) (v := ?_) rfl (by kernel_rfl) (by kernel_rfl) (by kernel_rfl) (fun _ _ _ h => h) (Or.inl ⟨by rfl, ?_⟩) (by assumption) ?_
                rotate_left
                · (intro w hSw; (try dsimp only at hSw); go_simp; try with_reducible rfl)
                try simp only [Act.put, List.setIfInBounds_toArray, List.set_cons_zero, List.set_cons_succ]
                refine wpAnyH_take (i := 10) (oi := { dst := some 108, op := Op.move (Operand.tmp 3), type := 24, pos := "laws.go:210", after := #[{ on := 6, ground := Ground.guard }], guard := some (6, false) }) (v := ?_) rfl (by kernel_rfl) (by kernel_rfl) (by kernel_rfl) (fun _ _ _ h => h) (Or.inl ⟨by rfl, ?_⟩) (by assumption) ?_
                rotate_left
                · (intro w hSw; (try dsimp only at hSw); go_simp; try with_reducible rfl)
                try simp only [Act.put, List.setIfInBounds_toArray, List.set_cons_zero, List.set_cons_succ]
                refine wpAnyH_take (i := 11) (oi := { dst := some 109, op := Op.call { callee := Callee.builtin Builtin.len, args := #[Operand.tmp 108], argTypes := #[24] }, type := 3, pos := "laws.go:210", after := #[{ on := 10, ground := Ground.data }, { on := 6, ground := Ground.guard }], guard := some (6, false) }) (v := ?_) rfl (by kernel_rfl) (by kernel_rfl) (by kernel_rfl) (fun _ _ _ h => h) (Or.inl ⟨by rfl, ?_⟩) (by assumption) ?_
                rotate_left
                · (intro w hSw; (try dsimp only at hSw); go_simp; try with_reducible rfl)
                try simp only [Act.put, List.setIfInBounds_toArray, List.set_cons_zero, List.set_cons_succ]
                refine wpAnyH_take (i := 12) (oi := { dst := some 110, op := Op.binOp BinOp.neq 3 (Operand.tmp 107) (Operand.tmp 109) 3, type := 4, pos := "laws.go:210", after := #[{ on := 9, ground := Ground.data }, { on := 11, ground := Ground.data }, { on := 6, ground := Ground.guard }], guard := some (6, false) }) (v := ?_) rfl (by kernel_rfl) (by kernel_rfl) (by kernel_rfl) (fun _ _ _ h => h) (Or.inl ⟨by rfl, ?_⟩) (by assumption) ?_
                rotate_left
                · (intro w hSw; (try dsimp only at hSw); go_simp; try with_reducible rfl)
                try simp only [Act.put, List.setIfInBounds_toArray, List.set_cons_zero, List.set_cons_succ]
                refine wpAnyH_take (i := 13) (oi := { dst := some 111, op := Op.pick (Operand.tmp 104) (Operand.const (Value.bool true)) (Operand.tmp 110), type := 4, pos := "laws.go:210", after := #[{ on := 6, ground := Ground.data }, { on := 12, ground := Ground.data }], guard := none }) (v := ?_) rfl (by kernel_rfl) (by kernel_rfl) (by kernel_rfl) (fun _ _ _ h => h) (Or.inl ⟨by rfl, ?_⟩) (by assumption) ?_
                rotate_left
                · (intro w hSw; (try dsimp only at hSw); go_simp; try with_reducible rfl)
                try simp only [Act.put, List.setIfInBounds_toArray, List.set_cons_zero, List.set_cons_succ]
                refine wpAnyH_take (i := 14) (oi := { dst := some 112, op := Op.move (Operand.tmp 111), type := 4, pos := "laws.go:210", after := #[{ on := 13, ground := Ground.data }, { on := 6, ground := Ground.chain }], guard := none }) (v := ?_) rfl (by kernel_rfl) (by kernel_rfl) (by kernel_rfl) (fun _ _ _ h => h) (Or.inl ⟨by rfl, ?_⟩) (by assumption) ?_
                rotate_left
                · (intro w hSw; (try dsimp only at hSw); go_simp; try with_reducible rfl)
                try simp only [Act.put, List.setIfInBounds_toArray, List.set_cons_zero, List.set_cons_succ]
                refine wpAnyH_take (i := 15) (oi := { dst := some 113, op := Op.move (Operand.tmp 9), type := 2, pos := "laws.go:210", after := #[{ on := 14, ground := Ground.guard }], guard := some (14, false) }) (v := ?_) rfl (by kernel_rfl) (by kernel_rfl) (by kernel_rfl) (fun _ _ _ h => h) (Or.inl ⟨by rfl, ?_⟩) (by assumption) ?_
                rotate_left
                · (intro w hSw; (try dsimp only at hSw); go_simp; try with_reducible rfl)
                try simp only [Act.put, List.setIfInBounds_toArray, List.set_cons_zero, List.set_cons_succ]
                refine wpAnyH_take (i := 17) (oi := { dst := some 115, op := Op.fieldAddr 43 (Operand.tmp 5) 1, type := 0, pos := "laws.go:210", after := #[{ on := 14, ground := Ground.guard }], guard := some (14, false) }) (v := ?_) rfl (by kernel_rfl) (by kernel_rfl) (by kernel_rfl) (fun _ _ _ h => h) (Or.inl ⟨by rfl, ?_⟩) (by assumption) ?_
                rotate_left
                · (intro w hSw; (try dsimp only at hSw); go_simp; try with_reducible rfl)
                try simp only [Act.put, List.setIfInBounds_toArray, List.set_cons_zero, List.set_cons_succ]
                refine wpAnyH_take (i := 18) (oi := { dst := some 116, op := Op.load 24 (Operand.tmp 115), type := 24, pos := "laws.go:210", after := #[{ on := 17, ground := Ground.data }, { on := 14, ground := Ground.guard }], guard := some (14, false) }) (v := ?_) rfl (by kernel_rfl) (by kernel_rfl) (by kernel_rfl) (fun _ _ _ h => h) (Or.inl ⟨by rfl, ?_⟩) (by assumption) ?_
                rotate_left
                · (intro w hSw; (try dsimp only at hSw); go_simp; try with_reducible rfl)
                try simp only [Act.put, List.setIfInBounds_toArray, List.set_cons_zero, List.set_cons_succ]
                refine wpAnyH_take (i := 19) (oi := { dst := some 117, op := Op.move (Operand.tmp 8), type := 3, pos := "laws.go:210", after := #[{ on := 14, ground := Ground.guard }], guard := some (14, false) }) (v := ?_) rfl (by kernel_rfl) (by kernel_rfl) (by kernel_rfl) (fun _ _ _ h => h) (Or.inl ⟨by rfl, ?_⟩) (by assumption) ?_
                rotate_left
                · (intro w hSw; (try dsimp only at hSw); go_simp; try with_reducible rfl)
                try simp only [Act.put, List.setIfInBounds_toArray, List.set_cons_zero, List.set_cons_succ]
                refine wpAnyH_take (i := 20) (oi := { dst := some 118, op := Op.indexAddr 24 (Operand.tmp 116) (Operand.tmp 117), type := 0, pos := "laws.go:210", after := #[{ on := 18, ground := Ground.data }, { on := 19, ground := Ground.data }, { on := 14, ground := Ground.guard }], guard := some (14, false) }) (v := ?_) rfl (by kernel_rfl) (by kernel_rfl) (by kernel_rfl) (fun _ _ _ h => h) (Or.inl ⟨by rfl, ?_⟩) (by assumption) ?_
                rotate_left
                · (intro w hSw; (try dsimp only at hSw); go_simp; try with_reducible rfl)
                try simp only [Act.put, List.setIfInBounds_toArray, List.set_cons_zero, List.set_cons_succ]
                refine wpAnyH_take (i := 21) (oi := { dst := some 119, op := Op.load 2 (Operand.tmp 118), type := 2, pos := "laws.go:210", after := #[{ on := 20, ground := Ground.data }, { on := 14, ground := Ground.guard }], guard := some (14, false) }) (v := ?_) rfl (by kernel_rfl) (by kernel_rfl) (by kernel_rfl) (fun _ _ _ h => h) (Or.inl ⟨by rfl, ?_⟩) (by assumption) ?_
                rotate_left
                · (intro w hSw; (try dsimp only at hSw); go_simp; try with_reducible rfl)
                try simp only [Act.put, List.setIfInBounds_toArray, List.set_cons_zero, List.set_cons_succ]
                refine wpAnyH_take (i := 22) (oi := { dst := some 120, op := Op.binOp BinOp.eql 2 (Operand.tmp 119) (Operand.const (Value.int IntKind.i64 (-1))) 2, type := 4, pos := "laws.go:210", after := #[{ on := 21, ground := Ground.data }, { on := 14, ground := Ground.guard }], guard := some (14, false) }) (v := ?_) rfl (by kernel_rfl) (by kernel_rfl) (by kernel_rfl) (fun _ _ _ h => h) (Or.inl ⟨by rfl, ?_⟩) (by assumption) ?_
                rotate_left
                · (intro w hSw; (try dsimp only at hSw); go_simp; try with_reducible rfl)
                try simp only [Act.put, List.setIfInBounds_toArray, List.set_cons_zero, List.set_cons_succ]
                refine wpAnyH_ready (rs := [16]) (by kernel_rfl) (by simp) ?_
                refine AllReadyH.cons (o := { dst := some 114, op := Op.call { callee := Callee.value (Operand.func 35), args := #[Operand.tmp 113], argTypes := #[2] }, type := 4, pos := "laws.go:210", after := #[{ on := 15, ground := Ground.data }, { on := 14, ground := Ground.chain }, { on := 14, ground := Ground.guard }], guard := some (14, false) }) rfl (fun K hK => ?_) AllReadyH.nil
                go_simp
                go_at_call 35
                refine (isGone_any qz _).mono ?_
                rintro e wA ⟨rfl, bA⟩
                have qbA : Below wq.drew.heap.size wq.drew wA := ⟨bA.os, bA.tape, bA.output, bA.size, bA.block⟩
                replace kEq := kEq.below qbA kEq.lt
                replace lc := (qbA.cell (p := ⟨bL, offL + k, none⟩) hlL).trans lc
                replace hlL := Nat.lt_of_lt_of_le hlL qbA.size
                replace BZ := Lib.hid (below_on BZ.out qbA (Nat.le_refl _))
                clear bA qbA
                rw [RB.out]
                try dsimp only
                refine hK.out _ _ ⟨kEq.cell 1 rfl, kEq.cell 2 rfl, lc⟩ (fun hHeld => ?_)
                clear hK K
                try simp only [Act.put, List.setIfInBounds_toArray, List.set_cons_zero, List.set_cons_succ]
                refine wpAnyH_take (i := 23) (oi := { dst := some 121, op := Op.binOp BinOp.neq 4 (Operand.tmp 114) (Operand.tmp 120) 4, type := 4, pos := "laws.go:210", after := #[{ on := 16, ground := Ground.data }, { on := 22, ground := Ground.data }, { on := 14, ground := Ground.guard }], guard := some (14, false) }) (v := ?_) rfl (by kernel_rfl) (by kernel_rfl) (by kernel_rfl) (fun _ _ _ h => h) (Or.inl ⟨by rfl, ?_⟩) (by assumption) ?_
                rotate_left
                · (intro w hSw; (try dsimp only at hSw); go_simp; try with_reducible rfl)
                try simp only [Act.put, List.setIfInBounds_toArray, List.set_cons_zero, List.set_cons_succ]
                refine wpAnyH_take (i := 24) (oi := { dst := some 122, op := Op.pick (Operand.tmp 112) (Operand.const (Value.bool true)) (Operand.tmp 121), type := 4, pos := "laws.go:210", after := #[{ on := 14, ground := Ground.data }, { on := 23, ground := Ground.data }], guard := none }) (v := ?_) rfl (by kernel_rfl) (by kernel_rfl) (by kernel_rfl) (fun _ _ _ h => h) (Or.inl ⟨by rfl, ?_⟩) (by assumption) ?_
                rotate_left
                · (intro w hSw; (try dsimp only at hSw); go_simp; try with_reducible rfl)
                try simp only [Act.put, List.setIfInBounds_toArray, List.set_cons_zero, List.set_cons_succ]
                refine wpAnyH_take (i := 25) (oi := { dst := some 123, op := Op.move (Operand.tmp 122), type := 4, pos := "laws.go:210", after := #[{ on := 24, ground := Ground.data }, { on := 16, ground := Ground.chain }], guard := none }) (v := ?_) rfl (by kernel_rfl) (by kernel_rfl) (by kernel_rfl) (fun _ _ _ h => h) (Or.inl ⟨by rfl, ?_⟩) (by assumption) ?_
                rotate_left
                · (intro w hSw; (try dsimp only at hSw); go_simp; try with_reducible rfl)
                try simp only [Act.put, List.setIfInBounds_toArray, List.set_cons_zero, List.set_cons_succ]
                refine wpAnyH_take (i := 26) (oi := { dst := some 124, op := Op.fieldAddr 43 (Operand.tmp 5) 1, type := 0, pos := "laws.go:210", after := #[{ on := 25, ground := Ground.guard }], guard := some (25, false) }) (v := ?_) rfl (by kernel_rfl) (by kernel_rfl) (by kernel_rfl) (fun _ _ _ h => h) (Or.inl ⟨by rfl, ?_⟩) (by assumption) ?_
                rotate_left
                · (intro w hSw; (try dsimp only at hSw); go_simp; try with_reducible rfl)
                try simp only [Act.put, List.setIfInBounds_toArray, List.set_cons_zero, List.set_cons_succ]
                refine wpAnyH_take (i := 27) (oi := { dst := some 125, op := Op.load 24 (Operand.tmp 124), type := 24, pos := "laws.go:210", after := #[{ on := 26, ground := Ground.data }, { on := 25, ground := Ground.guard }], guard := some (25, false) }) (v := ?_) rfl (by kernel_rfl) (by kernel_rfl) (by kernel_rfl) (fun _ _ _ h => h) (Or.inl ⟨by rfl, ?_⟩) (by assumption) ?_
                rotate_left
                · (intro w hSw; (try dsimp only at hSw); go_simp; try with_reducible rfl)
                try simp only [Act.put, List.setIfInBounds_toArray, List.set_cons_zero, List.set_cons_succ]
                refine wpAnyH_take (i := 28) (oi := { dst := some 126, op := Op.move (Operand.tmp 8), type := 3, pos := "laws.go:210", after := #[{ on := 25, ground := Ground.guard }], guard := some (25, false) }) (v := ?_) rfl (by kernel_rfl) (by kernel_rfl) (by kernel_rfl) (fun _ _ _ h => h) (Or.inl ⟨by rfl, ?_⟩) (by assumption) ?_
                rotate_left
                · (intro w hSw; (try dsimp only at hSw); go_simp; try with_reducible rfl)
                try simp only [Act.put, List.setIfInBounds_toArray, List.set_cons_zero, List.set_cons_succ]
                refine wpAnyH_take (i := 29) (oi := { dst := some 127, op := Op.indexAddr 24 (Operand.tmp 125) (Operand.tmp 126), type := 0, pos := "laws.go:210", after := #[{ on := 27, ground := Ground.data }, { on := 28, ground := Ground.data }, { on := 25, ground := Ground.guard }], guard := some (25, false) }) (v := ?_) rfl (by kernel_rfl) (by kernel_rfl) (by kernel_rfl) (fun _ _ _ h => h) (Or.inl ⟨by rfl, ?_⟩) (by assumption) ?_
                rotate_left
                · (intro w hSw; (try dsimp only at hSw); go_simp; try with_reducible rfl)
                try simp only [Act.put, List.setIfInBounds_toArray, List.set_cons_zero, List.set_cons_succ]
                refine wpAnyH_take (i := 30) (oi := { dst := some 128, op := Op.load 2 (Operand.tmp 127), type := 2, pos := "laws.go:210", after := #[{ on := 29, ground := Ground.data }, { on := 25, ground := Ground.guard }], guard := some (25, false) }) (v := ?_) rfl (by kernel_rfl) (by kernel_rfl) (by kernel_rfl) (fun _ _ _ h => h) (Or.inl ⟨by rfl, ?_⟩) (by assumption) ?_
                rotate_left
                · (intro w hSw; (try dsimp only at hSw); go_simp; try with_reducible rfl)
                try simp only [Act.put, List.setIfInBounds_toArray, List.set_cons_zero, List.set_cons_succ]
                refine wpAnyH_take (i := 31) (oi := { dst := some 129, op := Op.binOp BinOp.gtr 2 (Operand.tmp 128) (Operand.const (Value.int IntKind.i64 125)) 2, type := 4, pos := "laws.go:210", after := #[{ on := 30, ground := Ground.data }, { on := 25, ground := Ground.guard }], guard := some (25, false) }) (v := ?_) rfl (by kernel_rfl) (by kernel_rfl) (by kernel_rfl) (fun _ _ _ h => h) (Or.inl ⟨by rfl, ?_⟩) (by assumption) ?_
                rotate_left
                · (intro w hSw; (try dsimp only at hSw); go_simp; try with_reducible rfl)
                try simp only [Act.put, List.setIfInBounds_toArray, List.set_cons_zero, List.set_cons_succ]
                refine wpAnyH_take (i := 32) (oi := { dst := some 130, op := Op.pick (Operand.tmp 123) (Operand.const (Value.bool true)) (Operand.tmp 129), type := 4, pos := "laws.go:210", after := #[{ on := 25, ground := Ground.data }, { on := 31, ground := Ground.data }], guard := none }) (v := ?_) rfl (by kernel_rfl) (by kernel_rfl) (by kernel_rfl) (fun _ _ _ h => h) (Or.inl ⟨by rfl, ?_⟩) (by assumption) ?_
                rotate_left
                · (intro w hSw; (try dsimp only at hSw); go_simp; try with_reducible rfl)
                try simp only [Act.put, List.setIfInBounds_toArray, List.set_cons_zero, List.set_cons_succ]
                refine wpAnyH_take (i := 33) (oi := { dst := some 131, op := Op.move (Operand.tmp 130), type := 4, pos := "laws.go:210", after := #[{ on := 32, ground := Ground.data }, { on := 25, ground := Ground.chain }], guard := none }) (v := ?_) rfl (by kernel_rfl) (by kernel_rfl) (by kernel_rfl) (fun _ _ _ h => h) (Or.inl ⟨by rfl, ?_⟩) (by assumption) ?_
                rotate_left
                · (intro w hSw; (try dsimp only at hSw); go_simp; try with_reducible rfl)
                try simp only [Act.put, List.setIfInBounds_toArray, List.set_cons_zero, List.set_cons_succ]
                refine wpAnyH_take (i := 34) (oi := { dst := some 132, op := Op.move (Operand.tmp 9), type := 2, pos := "laws.go:210", after := #[{ on := 33, ground := Ground.guard }], guard := some (33, false) }) (v := ?_) rfl (by kernel_rfl) (by kernel_rfl) (by kernel_rfl) (fun _ _ _ h => h) (Or.inl ⟨by rfl, ?_⟩) (by assumption) ?_
                rotate_left
                · (intro w hSw; (try dsimp only at hSw); go_simp; try with_reducible rfl)
                try simp only [Act.put, List.setIfInBounds_toArray, List.set_cons_zero, List.set_cons_succ]
                refine wpAnyH_ready (rs := [35]) (by kernel_rfl) (by simp) ?_
                refine AllReadyH.cons (o := { dst := some 133, op := Op.call { callee := Callee.value (Operand.func 35), args := #[Operand.tmp 132], argTypes := #[2] }, type := 4, pos := "laws.go:210", after := #[{ on := 34, ground := Ground.data }, { on := 33, ground := Ground.chain }, { on := 33, ground := Ground.guard }], guard := some (33, false) }) rfl (fun K hK => ?_) AllReadyH.nil
                go_simp
                go_at_call 35
                refine (isGone_any qz _).mono ?_
                rintro e wB ⟨rfl, bB⟩
                have qbB : Below wA.heap.size wA wB := ⟨bB.os, bB.tape, bB.output, bB.size, bB.block⟩
                replace kEq := kEq.below qbB kEq.lt
                replace lc := (qbB.cell (p := ⟨bL, offL + k, none⟩) hlL).trans lc
                replace hlL := Nat.lt_of_lt_of_le hlL qbB.size
                replace BZ := Lib.hid (below_on BZ.out qbB (Nat.le_refl _))
                clear bB qbB
                rw [RB.out]
                try dsimp only
                refine hK.out _ _ ⟨kEq.cell 1 rfl, kEq.cell 2 rfl, lc⟩ (fun hHeld => ?_)
                clear hK K
                try simp only [Act.put, List.setIfInBounds_toArray, List.set_cons_zero, List.set_cons_succ]
                refine wpAnyH_take (i := 36) (oi := { dst := some 134, op := Op.unOp UnOp.not 4 (Operand.tmp 133), type := 4, pos := "laws.go:210", after := #[{ on := 35, ground := Ground.data }, { on := 33, ground := Ground.guard }], guard := some (33, false) }) (v := ?_) rfl (by kernel_rfl) (by kernel_rfl) (by kernel_rfl) (fun _ _ _ h => h) (Or.inl ⟨by rfl, ?_⟩) (by assumption) ?_
                rotate_left
                · (intro w hSw; (try dsimp only at hSw); go_simp; try with_reducible rfl)
                try simp only [Act.put, List.setIfInBounds_toArray, List.set_cons_zero, List.set_cons_succ]
                refine wpAnyH_take (i := 37) (oi := { dst := some 135, op := Op.move (Operand.tmp 134), type := 4, pos := "laws.go:210", after := #[{ on := 36, ground := Ground.data }, { on := 35, ground := Ground.chain }, { on := 33, ground := Ground.guard }], guard := some (33, false) }) (v := ?_) rfl (by kernel_rfl) (by kernel_rfl) (by kernel_rfl) (fun _ _ _ h => h) (Or.inl ⟨by rfl, ?_⟩) (by assumption) ?_
                rotate_left
                · (intro w hSw; (try dsimp only at hSw); go_simp; try with_reducible rfl)
                try simp only [Act.put, List.setIfInBounds_toArray, List.set_cons_zero, List.set_cons_succ]
                refine wpAnyH_take (i := 38) (oi := { dst := some 136, op := Op.fieldAddr 43 (Operand.tmp 5) 1, type := 0, pos := "laws.go:210", after := #[{ on := 37, ground := Ground.guard }], guard := some (37, true) }) (v := undef) rfl (by kernel_rfl) (by kernel_rfl) (by kernel_rfl) (fun _ _ _ h => h) (Or.inr ⟨by rfl, rfl⟩) (by assumption) ?_
                try simp only [Act.put, List.setIfInBounds_toArray, List.set_cons_zero, List.set_cons_succ]
                refine wpAnyH_take (i := 39) (oi := { dst := some 137, op := Op.load 24 (Operand.tmp 136), type := 24, pos := "laws.go:210", after := #[{ on := 38, ground := Ground.data }, { on := 37, ground := Ground.guard }], guard := some (37, true) }) (v := undef) rfl (by kernel_rfl) (by kernel_rfl) (by kernel_rfl) (fun _ _ _ h => h) (Or.inr ⟨by rfl, rfl⟩) (by assumption) ?_
                try simp only [Act.put, List.setIfInBounds_toArray, List.set_cons_zero, List.set_cons_succ]
                refine wpAnyH_take (i := 40) (oi := { dst := some 138, op := Op.move (Operand.tmp 8), type := 3, pos := "laws.go:210", after := #[{ on := 37, ground := Ground.guard }], guard := some (37, true) }) (v := undef) rfl (by kernel_rfl) (by kernel_rfl) (by kernel_rfl) (fun _ _ _ h => h) (Or.inr ⟨by rfl, rfl⟩) (by assumption) ?_
                try simp only [Act.put, List.setIfInBounds_toArray, List.set_cons_zero, List.set_cons_succ]
                refine wpAnyH_take (i := 41) (oi := { dst := some 139, op := Op.indexAddr 24 (Operand.tmp 137) (Operand.tmp 138), type := 0, pos := "laws.go:210", after := #[{ on := 39, ground := Ground.data }, { on := 40, ground := Ground.data }, { on := 37, ground := Ground.guard }], guard := some (37, true) }) (v := undef) rfl (by kernel_rfl) (by kernel_rfl) (by kernel_rfl) (fun _ _ _ h => h) (Or.inr ⟨by rfl, rfl⟩) (by assumption) ?_
                try simp only [Act.put, List.setIfInBounds_toArray, List.set_cons_zero, List.set_cons_succ]
                refine wpAnyH_take (i := 42) (oi := { dst := some 140, op := Op.load 2 (Operand.tmp 139), type := 2, pos := "laws.go:210", after := #[{ on := 41, ground := Ground.data }, { on := 37, ground := Ground.guard }], guard := some (37, true) }) (v := undef) rfl (by kernel_rfl) (by kernel_rfl) (by kernel_rfl) (fun _ _ _ h => h) (Or.inr ⟨by rfl, rfl⟩) (by assumption) ?_
                try simp only [Act.put, List.setIfInBounds_toArray, List.set_cons_zero, List.set_cons_succ]
                refine wpAnyH_take (i := 43) (oi := { dst := some 141, op := Op.move (Operand.tmp 4), type := 2, pos := "laws.go:210", after := #[{ on := 37, ground := Ground.guard }], guard := some (37, true) }) (v := undef) rfl (by kernel_rfl) (by kernel_rfl) (by kernel_rfl) (fun _ _ _ h => h) (Or.inr ⟨by rfl, rfl⟩) (by assumption) ?_
                try simp only [Act.put, List.setIfInBounds_toArray, List.set_cons_zero, List.set_cons_succ]
                refine wpAnyH_take (i := 44) (oi := { dst := some 142, op := Op.binOp BinOp.lss 2 (Operand.tmp 140) (Operand.tmp 141) 2, type := 4, pos := "laws.go:210", after := #[{ on := 42, ground := Ground.data }, { on := 43, ground := Ground.data }, { on := 37, ground := Ground.guard }], guard := some (37, true) }) (v := undef) rfl (by kernel_rfl) (by kernel_rfl) (by kernel_rfl) (fun _ _ _ h => h) (Or.inr ⟨by rfl, rfl⟩) (by assumption) ?_
                try simp only [Act.put, List.setIfInBounds_toArray, List.set_cons_zero, List.set_cons_succ]
                refine wpAnyH_take (i := 45) (oi := { dst := some 143, op := Op.pick (Operand.tmp 135) (Operand.tmp 142) (Operand.const (Value.bool false)), type := 4, pos := "laws.go:210", after := #[{ on := 37, ground := Ground.data }, { on := 44, ground := Ground.data }, { on := 33, ground := Ground.guard }], guard := some (33, false) }) (v := ?_) rfl (by kernel_rfl) (by kernel_rfl) (by kernel_rfl) (fun _ _ _ h => h) (Or.inl ⟨by rfl, ?_⟩) (by assumption) ?_
                rotate_left
                · (intro w hSw; (try dsimp only at hSw); go_simp; try with_reducible rfl)
                try simp only [Act.put, List.setIfInBounds_toArray, List.set_cons_zero, List.set_cons_succ]
                refine wpAnyH_take (i := 46) (oi := { dst := some 144, op := Op.pick (Operand.tmp 131) (Operand.const (Value.bool true)) (Operand.tmp 143), type := 4, pos := "laws.go:210", after := #[{ on := 33, ground := Ground.data }, { on := 45, ground := Ground.data }], guard := none }) (v := ?_) rfl (by kernel_rfl) (by kernel_rfl) (by kernel_rfl) (fun _ _ _ h => h) (Or.inl ⟨by rfl, ?_⟩) (by assumption) ?_
                rotate_left
                · (intro w hSw; (try dsimp only at hSw); go_simp; try with_reducible rfl)
                try simp only [Act.put, List.setIfInBounds_toArray, List.set_cons_zero, List.set_cons_succ]
                refine wpAnyH_done (by kernel_rfl) ?_ _
                go_wp2
                go_roundw
                case rel => exact ⟨k + 1, _, by omega, by go_num, rfl, XN2, BZ⟩
                case measure => first | omega | (simp [intOf]; omega)
          · have v0 : (vz == -1) = false := by simp; omega
            have v1 : decide (125 < vz) = false := decide_eq_false (by omega)
            have v2 : decide (vz < b) = false := decide_eq_false (by omega)
            have RB := Lib.hid hg
            clear hg
            subst eA
            cases x with
            | true =>
              have XN2 := Lib.hid (show true = anyOwn (classesN ts) (k + 1) by rw [XN.out]; rfl)
              go_wp2_with fail
              have bz : Below wq.heap.size wq wq.drew := ⟨rfl, rfl, rfl, Nat.le_refl _, fun _ _ => rfl⟩
              replace kEq := kEq.below bz kEq.lt
              replace lc : wq.drew.cell? ⟨bL, offL + k, none⟩ = some (.int .i64 vz) := lc
              have BZ := Lib.hid (below_on BQ.out bz (Nat.le_refl _))
              have hlL : bL < wq.drew.heap.size := World.block_lt_of_cell? _ _ lc
              clear bz
              refine wp_region_held_drew (S := fun w' => w'.cell? ⟨w2.heap.size, 1, none⟩ = some (.slice (some ⟨bL, offL, none⟩) (explL ts b).length c2) ∧ w'.cell? ⟨w2.heap.size, 2, none⟩ = some (.slice A3 (explC ts b).length c3) ∧ w'.cell? ⟨bL, offL + k, none⟩ = some (.int .i64 vz)) (by kernel_rfl) ⟨kEq.cell 1 rfl, kEq.cell 2 rfl, lc⟩ (fun hHeld => ?_)
              refine wpAnyH_take (i := 0) (oi := { dst := some 98, op := Op.fieldAddr 43 (Operand.tmp 5) 1, type := 0, pos := "laws.go:210", after := #[], guard := none }) (v := ?_) rfl (by kernel_rfl) (by kernel_rfl) (by kernel_rfl) (fun _ _ _ h => h) (Or.inl ⟨by rfl, ?_⟩) (by assumption) ?_
              rotate_left
              · (intro w hSw; (try dsimp only at hSw); go_simp; try with_reducible rfl)
              try simp only [Act.put, List.setIfInBounds_toArray, List.set_cons_zero, List.set_cons_succ]
              refine wpAnyH_take (i := 1) (oi := { dst := some 99, op := Op.load 24 (Operand.tmp 98), type := 24, pos := "laws.go:210", after := #[{ on := 0, ground := Ground.data }], guard := none }) (v := ?_) rfl (by kernel_rfl) (by kernel_rfl) (by kernel_rfl) (fun _ _ _ h => h) (Or.inl ⟨by rfl, ?_⟩) (by assumption) ?_
              rotate_left
              · (intro w hSw; (try dsimp only at hSw); go_simp; try with_reducible rfl)
              try simp only [Act.put, List.setIfInBounds_toArray, List.set_cons_zero, List.set_cons_succ]
              refine wpAnyH_take (i := 2) (oi := { dst := some 100, op := Op.call { callee := Callee.builtin Builtin.len, args := #[Operand.tmp 99], argTypes := #[24] }, type := 3, pos := "laws.go:210", after := #[{ on := 1, ground := Ground.data }], guard := none }) (v := ?_) rfl (by kernel_rfl) (by kernel_rfl) (by kernel_rfl) (fun _ _ _ h => h) (Or.inl ⟨by rfl, ?_⟩) (by assumption) ?_
              rotate_left
              · (intro w hSw; (try dsimp only at hSw); go_simp; try with_reducible rfl)
              try simp only [Act.put, List.setIfInBounds_toArray, List.set_cons_zero, List.set_cons_succ]
              refine wpAnyH_take (i := 3) (oi := { dst := some 101, op := Op.move (Operand.tmp 3), type := 24, pos := "laws.go:210", after := #[], guard := none }) (v := ?_) rfl (by kernel_rfl) (by kernel_rfl) (by kernel_rfl) (fun _ _ _ h => h) (Or.inl ⟨by rfl, ?_⟩) (by assumption) ?_
              rotate_left
              · (intro w hSw; (try dsimp only at hSw); go_simp; try with_reducible rfl)
              try simp only [Act.put, List.setIfInBounds_toArray, List.set_cons_zero, List.set_cons_succ]
              refine wpAnyH_take (i := 4) (oi := { dst := some 102, op := Op.call { callee := Callee.builtin Builtin.len, args := #[Operand.tmp 101], argTypes := #[24] }, type := 3, pos := "laws.go:210", after := #[{ on := 3, ground := Ground.data }], guard := none }) (v := ?_) rfl (by kernel_rfl) (by kernel_rfl) (by kernel_rfl) (fun _ _ _ h => h) (Or.inl ⟨by rfl, ?_⟩) (by assumption) ?_
              rotate_left
              · (intro w hSw; (try dsimp only at hSw); go_simp; try with_reducible rfl)
              try simp only [Act.put, List.setIfInBounds_toArray, List.set_cons_zero, List.set_cons_succ]
              refine wpAnyH_take (i := 5) (oi := { dst := some 103, op := Op.binOp BinOp.neq 3 (Operand.tmp 100) (Operand.tmp 102) 3, type := 4, pos := "laws.go:210", after := #[{ on := 2, ground := Ground.data }, { on := 4, ground := Ground.data }], guard := none }) (v := ?_) rfl (by kernel_rfl) (by kernel_rfl) (by kernel_rfl) (fun _ _ _ h => h) (Or.inl ⟨by rfl, ?_⟩) (by assumption) ?_
              rotate_left
              · (intro w hSw; (try dsimp only at hSw); go_simp; try with_reducible rfl)
              try simp only [Act.put, List.setIfInBounds_toArray, List.set_cons_zero, List.set_cons_succ]
              refine wpAnyH_take (i := 6) (oi := { dst := some 104, op := Op.move (Operand.tmp 103), type := 4, pos := "laws.go:210", after := #[{ on := 5, ground := Ground.data }], guard := none }) (v := ?_) rfl (by kernel_rfl) (by kernel_rfl) (by kernel_rfl) (fun _ _ _ h => h) (Or.inl ⟨by rfl, ?_⟩) (by assumption) ?_
              rotate_left
              · (intro w hSw; (try dsimp only at hSw); go_simp; try with_reducible rfl)
              try simp only [Act.put, List.setIfInBounds_toArray, List.set_cons_zero, List.set_cons_succ]
              refine wpAnyH_take (i := 7) (oi := { dst := some 105, op := Op.fieldAddr 43 (Operand.tmp 5) 2, type := 0, pos := "laws.go:210", after := #[{ on := 6, ground := Ground.guard }], guard := some (6, false) }) (v := ?_) rfl (by kernel_rfl) (by kernel_rfl) (by kernel_rfl) (fun _ _ _ h => h) (Or.inl ⟨by rfl, ?_⟩) (by assumption) ?_
              rotate_left
              · (intro w hSw; (try dsimp only at hSw); go_simp; try with_reducible rfl)
              try simp only [Act.put, List.setIfInBounds_toArray, List.set_cons_zero, List.set_cons_succ]
              refine wpAnyH_take (i := 8) (oi := { dst := some 106, op := Op.load 24 (Operand.tmp 105), type := 24, pos := "laws.go:210", after := #[{ on := 7, ground := Ground.data }, { on := 6, ground := Ground.guard }], guard := some (6, false) }) (v := ?_) rfl (by kernel_rfl) (by kernel_rfl) (by kernel_rfl) (fun _ _ _ h => h) (Or.inl ⟨by rfl, ?_⟩) (by assumption) ?_
              rotate_left
              · (intro w hSw; (try dsimp only at hSw); go_simp; try with_reducible rfl)
              try simp only [Act.put, List.setIfInBounds_toArray, List.set_cons_zero, List.set_cons_succ]
              refine wpAnyH_take (i := 9) (oi := { dst := some 107, op := Op.call { callee := Callee.builtin Builtin.len, args := #[Operand.tmp 106], argTypes := #[24] }, type := 3, pos := "laws.go:210", after := #[{ on := 8, ground := Ground.data }, { on := 6, ground := Ground.guard }], guard := some (6, false) }) (v := ?_) rfl (by kernel_rfl) (by kernel_rfl) (by kernel_rfl) (fun _ _ _ h => h) (Or.inl ⟨by rfl, ?_⟩) (by assumption) ?_
              rotate_left
              · (intro w hSw; (try dsimp only at hSw); go_simp; try with_reducible rfl)
              try simp only [Act.put, List.setIfInBounds_toArray, List.set_cons_zero, List.set_cons_succ]
              refine wpAnyH_take (i := 10) (oi := { dst := some 108, op := Op.move (Operand.tmp 3), type := 24, pos := "laws.go:210", after := #[{ on := 6, ground := Ground.guard }], guard := some (6, false) }) (v := ?_) rfl (by kernel_rfl) (by kernel_rfl) (by kernel_rfl) (fun _ _ _ h => h) (Or.inl ⟨by rfl, ?_⟩) (by assumption) ?_
              rotate_left
              · (intro w hSw; (try dsimp only at hSw); go_simp; try with_reducible rfl)
              try simp only [Act.put, List.setIfInBounds_toArray, List.set_cons_zero, List.set_cons_succ]
              refine wpAnyH_take (i := 11) (oi := { dst := some 109, op := Op.call { callee := Callee.builtin Builtin.len, args := #[Operand.tmp 108], argTypes := #[24] }, type := 3, pos := "laws.go:210", after := #[{ on := 10, ground := Ground.data }, { on := 6, ground := Ground.guard }], guard := some (6, false) }) (v := ?_) rfl (by kernel_rfl) (by kernel_rfl) (by kernel_rfl) (fun _ _ _ h => h) (Or.inl ⟨by rfl, ?_⟩) (by assumption) ?_
              rotate_left
              · (intro w hSw; (try dsimp only at hSw); go_simp; try with_reducible rfl)
              try simp only [Act.put, List.setIfInBounds_toArray, List.set_cons_zero, List.set_cons_succ]
              refine wpAnyH_take (i := 12) (oi := { dst := some 110, op := Op.binOp BinOp.neq 3 (Operand.tmp 107) (Operand.tmp 109) 3, type := 4, pos := "laws.go:210", after := #[{ on := 9, ground := Ground.data }, { on := 11, ground := Ground.data }, { on := 6, ground := Ground.guard }], guard := some (6, false) }) (v := ?_) rfl (by kernel_rfl) (by kernel_rfl) (by kernel_rfl) (fun _ _ _ h => h) (Or.inl ⟨by rfl, ?_⟩) (by assumption) ?_
              rotate_left
              · (intro w hSw; (try dsimp only at hSw); go_simp; try with_reducible rfl)
              try simp only [Act.put, List.setIfInBounds_toArray, List.set_cons_zero, List.set_cons_succ]
              refine wpAnyH_take (i := 13) (oi := { dst := some 111, op := Op.pick (Operand.tmp 104) (Operand.const (Value.bool true)) (Operand.tmp 110), type := 4, pos := "laws.go:210", after := #[{ on := 6, ground := Ground.data }, { on := 12, ground := Ground.data }], guard := none }) (v := ?_) rfl (by kernel_rfl) (by kernel_rfl) (by kernel_rfl) (fun _ _ _ h => h) (Or.inl ⟨by rfl, ?_⟩) (by assumption) ?_
              rotate_left
              · (intro w hSw; (try dsimp only at hSw); go_simp; try with_reducible rfl)
              try simp only [Act.put, List.setIfInBounds_toArray, List.set_cons_zero, List.set_cons_succ]
              refine wpAnyH_take (i := 14) (oi := { dst := some 112, op := Op.move (Operand.tmp 111), type := 4, pos := "laws.go:210", after := #[{ on := 13, ground := Ground.data }, { on := 6, ground := Ground.chain }], guard := none }) (v := ?_) rfl (by kernel_rfl) (by kernel_rfl) (by kernel_rfl) (fun _ _ _ h => h) (Or.inl ⟨by rfl, ?_⟩) (by assumption) ?_
              rotate_left
              · (intro w hSw; (try dsimp only at hSw); go_simp; try with_reducible rfl)
              try simp only [Act.put, List.setIfInBounds_toArray, List.set_cons_zero, List.set_cons_succ]
              refine wpAnyH_take (i := 15) (oi := { dst := some 113, op := Op.move (Operand.tmp 9), type := 2, pos := "laws.go:210", after := #[{ on := 14, ground := Ground.guard }], guard := some (14, false) }) (v := ?_) rfl (by kernel_rfl) (by kernel_rfl) (by kernel_rfl) (fun _ _ _ h => h) (Or.inl ⟨by rfl, ?_⟩) (by assumption) ?_
              rotate_left
              · (intro w hSw; (try dsimp only at hSw); go_simp; try with_reducible rfl)
              try simp only [Act.put, List.setIfInBounds_toArray, List.set_cons_zero, List.set_cons_succ]
              refine wpAnyH_take (i := 17) (oi := { dst := some 115, op := Op.fieldAddr 43 (Operand.tmp 5) 1, type := 0, pos := "laws.go:210", after := #[{ on := 14, ground := Ground.guard }], guard := some (14, false) }) (v := ?_) rfl (by kernel_rfl) (by kernel_rfl) (by kernel_rfl) (fun _ _ _ h => h) (Or.inl ⟨by rfl, ?_⟩) (by assumption) ?_
              rotate_left
              · (intro w hSw; (try dsimp only at hSw); go_simp; try with_reducible rfl)
              try simp only [Act.put, List.setIfInBounds_toArray, List.set_cons_zero, List.set_cons_succ]
              refine wpAnyH_take (i := 18) (oi := { dst := some 116, op := Op.load 24 (Operand.tmp 115), type := 24, pos := "laws.go:210", after := #[{ on := 17, ground := Ground.data }, { on := 14, ground := Ground.guard }], guard := some (14, false) }) (v := ?_) rfl (by kernel_rfl) (by kernel_rfl) (by kernel_rfl) (fun _ _ _ h => h) (Or.inl ⟨by rfl, ?_⟩) (by assumption) ?_
              rotate_left
              · (intro w hSw; (try dsimp only at hSw); go_simp; try with_reducible rfl)
              try simp only [Act.put, List.setIfInBounds_toArray, List.set_cons_zero, List.set_cons_succ]
              refine wpAnyH_take (i := 19) (oi := { dst := some 117, op := Op.move (Operand.tmp 8), type := 3, pos := "laws.go:210", after := #[{ on := 14, ground := Ground.guard }], guard := some (14, false) }) (v := ?_) rfl (by kernel_rfl) (by kernel_rfl) (by kernel_rfl) (fun _ _ _ h => h) (Or.inl ⟨by rfl, ?_⟩) (by assumption) ?_
              rotate_left
              · (intro w hSw; (try dsimp only at hSw); go_simp; try with_reducible rfl)
              try simp only [Act.put, List.setIfInBounds_toArray, List.set_cons_zero, List.set_cons_succ]
              refine wpAnyH_take (i := 20) (oi := { dst := some 118, op := Op.indexAddr 24 (Operand.tmp 116) (Operand.tmp 117), type := 0, pos := "laws.go:210", after := #[{ on := 18, ground := Ground.data }, { on := 19, ground := Ground.data }, { on := 14, ground := Ground.guard }], guard := some (14, false) }) (v := ?_) rfl (by kernel_rfl) (by kernel_rfl) (by kernel_rfl) (fun _ _ _ h => h) (Or.inl ⟨by rfl, ?_⟩) (by assumption) ?_
              rotate_left
              · (intro w hSw; (try dsimp only at hSw); go_simp; try with_reducible rfl)
              try simp only [Act.put, List.setIfInBounds_toArray, List.set_cons_zero, List.set_cons_succ]
              refine wpAnyH_take (i := 21) (oi := { dst := some 119, op := Op.load 2 (Operand.tmp 118), type := 2, pos := "laws.go:210", after := #[{ on := 20, ground := Ground.data }, { on := 14, ground := Ground.guard }], guard := some (14, false) }) (v := ?_) rfl (by kernel_rfl) (by kernel_rfl) (by kernel_rfl) (fun _ _ _ h => h) (Or.inl ⟨by rfl, ?_⟩) (by assumption) ?_
              rotate_left
              · (intro w hSw; (try dsimp only at hSw); go_simp; try with_reducible rfl)
              try simp only [Act.put, List.setIfInBounds_toArray, List.set_cons_zero, List.set_cons_succ]
              refine wpAnyH_take (i := 22) (oi := { dst := some 120, op := Op.binOp BinOp.eql 2 (Operand.tmp 119) (Operand.const (Value.int IntKind.i64 (-1))) 2, type := 4, pos := "laws.go:210", after := #[{ on := 21, ground := Ground.data }, { on := 14, ground := Ground.guard }], guard := some (14, false) }) (v := ?_) rfl (by kernel_rfl) (by kernel_rfl) (by kernel_rfl) (fun _ _ _ h => h) (Or.inl ⟨by rfl, ?_⟩) (by assumption) ?_
              rotate_left
              · (intro w hSw; (try dsimp only at hSw); go_simp; try with_reducible rfl)
              try simp only [Act.put, List.setIfInBounds_toArray, List.set_cons_zero, List.set_cons_succ]
              refine wpAnyH_ready (rs := [16]) (by kernel_rfl) (by simp) ?_
              refine AllReadyH.cons (o := { dst := some 114, op := Op.call { callee := Callee.value (Operand.func 35), args := #[Operand.tmp 113], argTypes := #[2] }, type := 4, pos := "laws.go:210", after := #[{ on := 15, ground := Ground.data }, { on := 14, ground := Ground.chain }, { on := 14, ground := Ground.guard }], guard := some (14, false) }) rfl (fun K hK => ?_) AllReadyH.nil
              go_simp
              go_at_call 35
              refine (isGone_any qz _).mono ?_
              rintro e wA ⟨rfl, bA⟩
              have qbA : Below wq.drew.heap.size wq.drew wA := ⟨bA.os, bA.tape, bA.output, bA.size, bA.block⟩
              replace kEq := kEq.below qbA kEq.lt
              replace lc := (qbA.cell (p := ⟨bL, offL + k, none⟩) hlL).trans lc
              replace hlL := Nat.lt_of_lt_of_le hlL qbA.size
              replace BZ := Lib.hid (below_on BZ.out qbA (Nat.le_refl _))
              clear bA qbA
              rw [RB.out]
              try dsimp only
              refine hK.out _ _ ⟨kEq.cell 1 rfl, kEq.cell 2 rfl, lc⟩ (fun hHeld => ?_)
              clear hK K
              try simp only [Act.put, List.setIfInBounds_toArray, List.set_cons_zero, List.set_cons_succ]
              refine wpAnyH_take (i := 23) (oi := { dst := some 121, op := Op.binOp BinOp.neq 4 (Operand.tmp 114) (Operand.tmp 120) 4, type := 4, pos := "laws.go:210", after := #[{ on := 16, ground := Ground.data }, { on := 22, ground := Ground.data }, { on := 14, ground := Ground.guard }], guard := some (14, false) }) (v := ?_) rfl (by kernel_rfl) (by kernel_rfl) (by kernel_rfl) (fun _ _ _ h => h) (Or.inl ⟨by rfl, ?_⟩) (by assumption) ?_
              rotate_left
              · (intro w hSw; (try dsimp only at hSw); go_simp; try with_reducible rfl)
              try simp only [Act.put, List.setIfInBounds_toArray, List.set_cons_zero, List.set_cons_succ]
              refine wpAnyH_take (i := 24) (oi := { dst := some 122, op := Op.pick (Operand.tmp 112) (Operand.const (Value.bool true)) (Operand.tmp 121), type := 4, pos := "laws.go:210", after := #[{ on := 14, ground := Ground.data }, { on := 23, ground := Ground.data }], guard := none }) (v := ?_) rfl (by kernel_rfl) (by kernel_rfl) (by kernel_rfl) (fun _ _ _ h => h) (Or.inl ⟨by rfl, ?_⟩) (by assumption) ?_
              rotate_left
              · (intro w hSw; (try dsimp only at hSw); go_simp; try with_reducible rfl)
              try simp only [Act.put, List.setIfInBounds_toArray, List.set_cons_zero, List.set_cons_succ]
              refine wpAnyH_take (i := 25) (oi := { dst := some 123, op := Op.move (Operand.tmp 122), type := 4, pos := "laws.go:210", after := #[{ on := 24, ground := Ground.data }, { on := 16, ground := Ground.chain }], guard := none }) (v := ?_) rfl (by kernel_rfl) (by kernel_rfl) (by kernel_rfl) (fun _ _ _ h => h) (Or.inl ⟨by rfl, ?_⟩) (by assumption) ?_
              rotate_left
              · (intro w hSw; (try dsimp only at hSw); go_simp; try with_reducible rfl)
              try simp only [Act.put, List.setIfInBounds_toArray, List.set_cons_zero, List.set_cons_succ]
              refine wpAnyH_take (i := 26) (oi := { dst := some 124, op := Op.fieldAddr 43 (Operand.tmp 5) 1, type := 0, pos := "laws.go:210", after := #[{ on := 25, ground := Ground.guard }], guard := some (25, false) }) (v := ?_) rfl (by kernel_rfl) (by kernel_rfl) (by kernel_rfl) (fun _ _ _ h => h) (Or.inl ⟨by rfl, ?_⟩) (by assumption) ?_
              rotate_left
              · (intro w hSw; (try dsimp only at hSw); go_simp; try with_reducible rfl)
              try simp only [Act.put, List.setIfInBounds_toArray, List.set_cons_zero, List.set_cons_succ]
              refine wpAnyH_take (i := 27) (oi := { dst := some 125, op := Op.load 24 (Operand.tmp 124), type := 24, pos := "laws.go:210", after := #[{ on := 26, ground := Ground.data }, { on := 25, ground := Ground.guard }], guard := some (25, false) }) (v := ?_) rfl (by kernel_rfl) (by kernel_rfl) (by kernel_rfl) (fun _ _ _ h => h) (Or.inl ⟨by rfl, ?_⟩) (by assumption) ?_
              rotate_left
              · (intro w hSw; (try dsimp only at hSw); go_simp; try with_reducible rfl)
              try simp only [Act.put, List.setIfInBounds_toArray, List.set_cons_zero, List.set_cons_succ]
              refine wpAnyH_take (i := 28) (oi := { dst := some 126, op := Op.move (Operand.tmp 8), type := 3, pos := "laws.go:210", after := #[{ on := 25, ground := Ground.guard }], guard := some (25, false) }) (v := ?_) rfl (by kernel_rfl) (by kernel_rfl) (by kernel_rfl) (fun _ _ _ h => h) (Or.inl ⟨by rfl, ?_⟩) (by assumption) ?_
              rotate_left
              · (intro w hSw; (try dsimp only at hSw); go_simp; try with_reducible rfl)
              try simp only [Act.put, List.setIfInBounds_toArray, List.set_cons_zero, List.set_cons_succ]
              refine wpAnyH_take (i := 29) (oi := { dst := some 127, op := Op.indexAddr 24 (Operand.tmp 125) (Operand.tmp 126), type := 0, pos := "laws.go:210", after := #[{ on := 27, ground := Ground.data }, { on := 28, ground := Ground.data }, { on := 25, ground := Ground.guard }], guard := some (25, false) }) (v := ?_) rfl (by kernel_rfl) (by kernel_rfl) (by kernel_rfl) (fun _ _ _ h => h) (Or.inl ⟨by rfl, ?_⟩) (by assumption) ?_
              rotate_left
              · (intro w hSw; (try dsimp only at hSw); go_simp; try with_reducible rfl)
              try simp only [Act.put, List.setIfInBounds_toArray, List.set_cons_zero, List.set_cons_succ]
              refine wpAnyH_take (i := 30) (oi := { dst := some 128, op := Op.load 2 (Operand.tmp 127), type := 2, pos := "laws.go:210", after := #[{ on := 29, ground := Ground.data }, { on := 25, ground := Ground.guard }], guard := some (25, false) }) (v := ?_) rfl (by kernel_rfl) (by kernel_rfl) (by kernel_rfl) (fun _ _ _ h => h) (Or.inl ⟨by rfl, ?_⟩) (by assumption) ?_
              rotate_left
              · (intro w hSw; (try dsimp only at hSw); go_simp; try with_reducible rfl)
              try simp only [Act.put, List.setIfInBounds_toArray, List.set_cons_zero, List.set_cons_succ]
              refine wpAnyH_take (i := 31) (oi := { dst := some 129, op := Op.binOp BinOp.gtr 2 (Operand.tmp 128) (Operand.const (Value.int IntKind.i64 125)) 2, type := 4, pos := "laws.go:210", after := #[{ on := 30, ground := Ground.data }, { on := 25, ground := Ground.guard }], guard := some (25, false) }) (v := ?_) rfl (by kernel_rfl) (by kernel_rfl) (by kernel_rfl) (fun _ _ _ h => h) (Or.inl ⟨by rfl, ?_⟩) (by assumption) ?_
              rotate_left
              · (intro w hSw; (try dsimp only at hSw); go_simp; try with_reducible rfl)
              try simp only [Act.put, List.setIfInBounds_toArray, List.set_cons_zero, List.set_cons_succ]
              refine wpAnyH_take (i := 32) (oi := { dst := some 130, op := Op.pick (Operand.tmp 123) (Operand.const (Value.bool true)) (Operand.tmp 129), type := 4, pos := "laws.go:210", after := #[{ on := 25, ground := Ground.data }, { on := 31, ground := Ground.data }], guard := none }) (v := ?_) rfl (by kernel_rfl) (by kernel_rfl) (by kernel_rfl) (fun _ _ _ h => h) (Or.inl ⟨by rfl, ?_⟩) (by assumption) ?_
              rotate_left
              · (intro w hSw; (try dsimp only at hSw); go_simp; try with_reducible rfl)
              try simp only [Act.put, List.setIfInBounds_toArray, List.set_cons_zero, List.set_cons_succ]
              refine wpAnyH_take (i := 33) (oi := { dst := some 131, op := Op.move (Operand.tmp 130), type := 4, pos := "laws.go:210", after := #[{ on := 32, ground := Ground.data }, { on := 25, ground := Ground.chain }], guard := none }) (v := ?_) rfl (by kernel_rfl) (by kernel_rfl) (by kernel_rfl) (fun _ _ _ h => h) (Or.inl ⟨by rfl, ?_⟩) (by assumption) ?_
              rotate_left
              · (intro w hSw; (try dsimp only at hSw); go_simp; try with_reducible rfl)
              try simp only [Act.put, List.setIfInBounds_toArray, List.set_cons_zero, List.set_cons_succ]
              refine wpAnyH_take (i := 34) (oi := { dst := some 132, op := Op.move (Operand.tmp 9), type := 2, pos := "laws.go:210", after := #[{ on := 33, ground := Ground.guard }], guard := some (33, false) }) (v := ?_) rfl (by kernel_rfl) (by kernel_rfl) (by kernel_rfl) (fun _ _ _ h => h) (Or.inl ⟨by rfl, ?_⟩) (by assumption) ?_
              rotate_left
              · (intro w hSw; (try dsimp only at hSw); go_simp; try with_reducible rfl)
              try simp only [Act.put, List.setIfInBounds_toArray, List.set_cons_zero, List.set_cons_succ]
              refine wpAnyH_ready (rs := [35]) (by kernel_rfl) (by simp) ?_
              refine AllReadyH.cons (o := { dst := some 133, op := Op.call { callee := Callee.value (Operand.func 35), args := #[Operand.tmp 132], argTypes := #[2] }, type := 4, pos := "laws.go:210", after := #[{ on := 34, ground := Ground.data }, { on := 33, ground := Ground.chain }, { on := 33, ground := Ground.guard }], guard := some (33, false) }) rfl (fun K hK => ?_) AllReadyH.nil
              go_simp
              go_at_call 35
              refine (isGone_any qz _).mono ?_
              rintro e wB ⟨rfl, bB⟩
              have qbB : Below wA.heap.size wA wB := ⟨bB.os, bB.tape, bB.output, bB.size, bB.block⟩
              replace kEq := kEq.below qbB kEq.lt
              replace lc := (qbB.cell (p := ⟨bL, offL + k, none⟩) hlL).trans lc
              replace hlL := Nat.lt_of_lt_of_le hlL qbB.size
              replace BZ := Lib.hid (below_on BZ.out qbB (Nat.le_refl _))
              clear bB qbB
              rw [RB.out]
              try dsimp only
              refine hK.out _ _ ⟨kEq.cell 1 rfl, kEq.cell 2 rfl, lc⟩ (fun hHeld => ?_)
              clear hK K
              try simp only [Act.put, List.setIfInBounds_toArray, List.set_cons_zero, List.set_cons_succ]
              refine wpAnyH_take (i := 36) (oi := { dst := some 134, op := Op.unOp UnOp.not 4 (Operand.tmp 133), type := 4, pos := "laws.go:210", after := #[{ on := 35, ground := Ground.data }, { on := 33, ground := Ground.guard }], guard := some (33, false) }) (v := ?_) rfl (by kernel_rfl) (by kernel_rfl) (by kernel_rfl) (fun _ _ _ h => h) (Or.inl ⟨by rfl, ?_⟩) (by assumption) ?_
              rotate_left
              · (intro w hSw; (try dsimp only at hSw); go_simp; try with_reducible rfl)
              try simp only [Act.put, List.setIfInBounds_toArray, List.set_cons_zero, List.set_cons_succ]
              refine wpAnyH_take (i := 37) (oi := { dst := some 135, op := Op.move (Operand.tmp 134), type := 4, pos := "laws.go:210", after := #[{ on := 36, ground := Ground.data }, { on := 35, ground := Ground.chain }, { on := 33, ground := Ground.guard }], guard := some (33, false) }) (v := ?_) rfl (by kernel_rfl) (by kernel_rfl) (by kernel_rfl) (fun _ _ _ h => h) (Or.inl ⟨by rfl, ?_⟩) (by assumption) ?_
              rotate_left
              · (intro w hSw; (try dsimp only at hSw); go_simp; try with_reducible rfl)
              try simp only [Act.put, List.setIfInBounds_toArray, List.set_cons_zero, List.set_cons_succ]
              refine wpAnyH_take (i := 38) (oi := { dst := some 136, op := Op.fieldAddr 43 (Operand.tmp 5) 1, type := 0, pos := "laws.go:210", after := #[{ on := 37, ground := Ground.guard }], guard := some (37, true) }) (v := ?_) rfl (by kernel_rfl) (by kernel_rfl) (by kernel_rfl) (fun _ _ _ h => h) (Or.inl ⟨by rfl, ?_⟩) (by assumption) ?_
              rotate_left
              · (intro w hSw; (try dsimp only at hSw); go_simp; try with_reducible rfl)
              try simp only [Act.put, List.setIfInBounds_toArray, List.set_cons_zero, List.set_cons_succ]
              refine wpAnyH_take (i := 39) (oi := { dst := some 137, op := Op.load 24 (Operand.tmp 136), type := 24, pos := "laws.go:210", after := #[{ on := 38, ground := Ground.data }, { on := 37, ground := Ground.guard }], guard := some (37, true) }) (v := ?_) rfl (by kernel_rfl) (by kernel_rfl) (by kernel_rfl) (fun _ _ _ h => h) (Or.inl ⟨by rfl, ?_⟩) (by assumption) ?_
              rotate_left
              · (intro w hSw; (try dsimp only at hSw); go_simp; try with_reducible rfl)
              try simp only [Act.put, List.setIfInBounds_toArray, List.set_cons_zero, List.set_cons_succ]
              refine wpAnyH_take (i := 40) (oi := { dst := some 138, op := Op.move (Operand.tmp 8), type := 3, pos := "laws.go:210", after := #[{ on := 37, ground := Ground.guard }], guard := some (37, true) }) (v := ?_) rfl (by kernel_rfl) (by kernel_rfl) (by kernel_rfl) (fun _ _ _ h => h) (Or.inl ⟨by rfl, ?_⟩) (by assumption) ?_
              rotate_left
              · (intro w hSw; (try dsimp only at hSw); go_simp; try with_reducible rfl)
              try simp only [Act.put, List.setIfInBounds_toArray, List.set_cons_zero, List.set_cons_succ]
              refine wpAnyH_take (i := 41) (oi := { dst := some 139, op := Op.indexAddr 24 (Operand.tmp 137) (Operand.tmp 138), type := 0, pos := "laws.go:210", after := #[{ on := 39, ground := Ground.data }, { on := 40, ground := Ground.data }, { on := 37, ground := Ground.guard }], guard := some (37, true) }) (v := ?_) rfl (by kernel_rfl) (by kernel_rfl) (by kernel_rfl) (fun _ _ _ h => h) (Or.inl ⟨by rfl, ?_⟩) (by assumption) ?_
              rotate_left
              · (intro w hSw; (try dsimp only at hSw); go_simp; try with_reducible rfl)
              try simp only [Act.put, List.setIfInBounds_toArray, List.set_cons_zero, List.set_cons_succ]
              refine wpAnyH_take (i := 42) (oi := { dst := some 140, op := Op.load 2 (Operand.tmp 139), type := 2, pos := "laws.go:210", after := #[{ on := 41, ground := Ground.data }, { on := 37, ground := Ground.guard }], guard := some (37, true) }) (v := ?_) rfl (by kernel_rfl) (by kernel_rfl) (by kernel_rfl) (fun _ _ _ h => h) (Or.inl ⟨by rfl, ?_⟩) (by assumption) ?_
              rotate_left
              · (intro w hSw; (try dsimp only at hSw); go_simp; try with_reducible rfl)
              try simp only [Act.put, List.setIfInBounds_toArray, List.set_cons_zero, List.set_cons_succ]
              refine wpAnyH_take (i := 43) (oi := { dst := some 141, op := Op.move (Operand.tmp 4), type := 2, pos := "laws.go:210", after := #[{ on := 37, ground := Ground.guard }], guard := some (37, true) }) (v := ?_) rfl (by kernel_rfl) (by kernel_rfl) (by kernel_rfl) (fun _ _ _ h => h) (Or.inl ⟨by rfl, ?_⟩) (by assumption) ?_
              rotate_left
              · (intro w hSw; (try dsimp only at hSw); go_simp; try with_reducible rfl)
              try simp only [Act.put, List.setIfInBounds_toArray, List.set_cons_zero, List.set_cons_succ]
              refine wpAnyH_take (i := 44) (oi := { dst := some 142, op := Op.binOp BinOp.lss 2 (Operand.tmp 140) (Operand.tmp 141) 2, type := 4, pos := "laws.go:210", after := #[{ on := 42, ground := Ground.data }, { on := 43, ground := Ground.data }, { on := 37, ground := Ground.guard }], guard := some (37, true) }) (v := ?_) rfl (by kernel_rfl) (by kernel_rfl) (by kernel_rfl) (fun _ _ _ h => h) (Or.inl ⟨by rfl, ?_⟩) (by assumption) ?_
              rotate_left
              · (intro w hSw; (try dsimp only at hSw); go_simp; try with_reducible rfl)
              try simp only [Act.put, List.setIfInBounds_toArray, List.set_cons_zero, List.set_cons_succ]
              refine wpAnyH_take (i := 45) (oi := { dst := some 143, op := Op.pick (Operand.tmp 135) (Operand.tmp 142) (Operand.const (Value.bool false)), type := 4, pos := "laws.go:210", after := #[{ on := 37, ground := Ground.data }, { on := 44, ground := Ground.data }, { on := 33, ground := Ground.guard }], guard := some (33, false) }) (v := ?_) rfl (by kernel_rfl) (by kernel_rfl) (by kernel_rfl) (fun _ _ _ h => h) (Or.inl ⟨by rfl, ?_⟩) (by assumption) ?_
              rotate_left
              · (intro w hSw; (try dsimp only at hSw); go_simp; try with_reducible rfl)
              try simp only [Act.put, List.setIfInBounds_toArray, List.set_cons_zero, List.set_cons_succ]
              refine wpAnyH_take (i := 46) (oi := { dst := some 144, op := Op.pick (Operand.tmp 131) (Operand.const (Value.bool true)) (Operand.tmp 143), type := 4, pos := "laws.go:210", after := #[{ on := 33, ground := Ground.data }, { on := 45, ground := Ground.data }], guard := none }) (v := ?_) rfl (by kernel_rfl) (by kernel_rfl) (by kernel_rfl) (fun _ _ _ h => h) (Or.inl ⟨by rfl, ?_⟩) (by assumption) ?_
              rotate_left
              · (intro w hSw; (try dsimp only at hSw); go_simp; try with_reducible rfl)
              try simp only [Act.put, List.setIfInBounds_toArray, List.set_cons_zero, List.set_cons_succ]
              refine wpAnyH_done (by kernel_rfl) ?_ _
              go_wp2
              go_roundw
              case rel => exact ⟨k + 1, _, by omega, by go_num, rfl, XN2, BZ⟩
              case measure => first | omega | (simp [intOf]; omega)
            | false =>
              rcases go with go | go
              · have XN2 := Lib.hid (show true = anyOwn (classesN ts) (k + 1) by rw [XN.out, go]; rfl)
                go_wp2_with fail
                have bz : Below wq.heap.size wq wq.drew := ⟨rfl, rfl, rfl, Nat.le_refl _, fun _ _ => rfl⟩
                replace kEq := kEq.below bz kEq.lt
                replace lc : wq.drew.cell? ⟨bL, offL + k, none⟩ = some (.int .i64 vz) := lc
                have BZ := Lib.hid (below_on BQ.out bz (Nat.le_refl _))
                have hlL : bL < wq.drew.heap.size := World.block_lt_of_cell? _ _ lc
                clear bz
                refine wp_region_held_drew (S := fun w' => w'.cell? ⟨w2.heap.size, 1, none⟩ = some (.slice (some ⟨bL, offL, none⟩) (explL ts b).length c2) ∧ w'.cell? ⟨w2.heap.size, 2, none⟩ = some (.slice A3 (explC ts b).length c3) ∧ w'.cell? ⟨bL, offL + k, none⟩ = some (.int .i64 vz)) (by kernel_rfl) ⟨kEq.cell 1 rfl, kEq.cell 2 rfl, lc⟩ (fun hHeld => ?_)
                refine wpAnyH_take (i := 0) (oi := { dst := some 98, op := Op.fieldAddr 43 (Operand.tmp 5) 1, type := 0, pos := "laws.go:210", after := #[], guard := none }) (v := ?_) rfl (by kernel_rfl) (by kernel_rfl) (by kernel_rfl) (fun _ _ _ h => h) (Or.inl ⟨by rfl, ?_⟩) (by assumption) ?_
                rotate_left
                · (intro w hSw; (try dsimp only at hSw); go_simp; try with_reducible rfl)
                try simp only [Act.put, List.setIfInBounds_toArray, List.set_cons_zero, List.set_cons_succ]
                refine wpAnyH_take (i := 1) (oi := { dst := some 99, op := Op.load 24 (Operand.tmp 98), type := 24, pos := "laws.go:210", after := #[{ on := 0, ground := Ground.data }], guard := none }) (v := ?_) rfl (by kernel_rfl) (by kernel_rfl) (by kernel_rfl) (fun _ _ _ h => h) (Or.inl ⟨by rfl, ?_⟩) (by assumption) ?_
                rotate_left
                · (intro w hSw; (try dsimp only at hSw); go_simp; try with_reducible rfl)
                try simp only [Act.put, List.setIfInBounds_toArray, List.set_cons_zero, List.set_cons_succ]
                refine wpAnyH_take (i := 2) (oi := { dst := some 100, op := Op.call { callee := Callee.builtin Builtin.len, args := #[Operand.tmp 99], argTypes := #[24] }, type := 3, pos := "laws.go:210", after := #[{ on := 1, ground := Ground.data }], guard := none }) (v := ?_) rfl (by kernel_rfl) (by kernel_rfl) (by kernel_rfl) (fun _ _ _ h => h) (Or.inl ⟨by rfl, ?_⟩) (by assumption) ?_
                rotate_left
                · (intro w hSw; (try dsimp only at hSw); go_simp; try with_reducible rfl)
                try simp only [Act.put, List.setIfInBounds_toArray, List.set_cons_zero, List.set_cons_succ]
                refine wpAnyH_take (i := 3) (oi := { dst := some 101, op := Op.move (Operand.tmp 3), type := 24, pos := "laws.go:210", after := #[], guard := none }) (v := ?_) rfl (by kernel_rfl) (by kernel_rfl) (by kernel_rfl) (fun _ _ _ h => h) (Or.inl ⟨by rfl, ?_⟩) (by assumption) ?_
                rotate_left
                · (intro w hSw; (try dsimp only at hSw); go_simp; try with_reducible rfl)
                try simp only [Act.put, List.setIfInBounds_toArray, List.set_cons_zero, List.set_cons_succ]
                refine wpAnyH_take (i := 4) (oi := { dst := some 102, op := Op.call { callee := Callee.builtin Builtin.len, args := #[Operand.tmp 101], argTypes := #[24] }, type := 3, pos := "laws.go:210", after := #[{ on := 3, ground := Ground.data }], guard := none }) (v := ?_) rfl (by kernel_rfl) (by kernel_rfl) (by kernel_rfl) (fun _ _ _ h => h) (Or.inl ⟨by rfl, ?_⟩) (by assumption) ?_
                rotate_left
                · (intro w hSw; (try dsimp only at hSw); go_simp; try with_reducible rfl)
                try simp only [Act.put, List.setIfInBounds_toArray, List.set_cons_zero, List.set_cons_succ]
                refine wpAnyH_take (i := 5) (oi := { dst := some 103, op := Op.binOp BinOp.neq 3 (Operand.tmp 100) (Operand.tmp 102) 3, type := 4, pos := "laws.go:210", after := #[{ on := 2, ground := Ground.data }, { on := 4, ground := Ground.data }], guard := none }) (v := ?_) rfl (by kernel_rfl) (by kernel_rfl) (by kernel_rfl) (fun _ _ _ h => h) (Or.inl ⟨by rfl, ?_⟩) (by assumption) ?_
                rotate_left
                · (intro w hSw; (try dsimp only at hSw); go_simp; try with_reducible rfl)
                try simp only [Act.put, List.setIfInBounds_toArray, List.set_cons_zero, List.set_cons_succ]
                refine wpAnyH_take (i := 6) (oi := { dst := some 104, op := Op.move (Operand.tmp 103), type := 4, pos := "laws.go:210", after := #[{ on := 5, ground := Ground.data }], guard := none }) (v := ?_) rfl (by kernel_rfl) (by kernel_rfl) (by kernel_rfl) (fun _ _ _ h => h) (Or.inl ⟨by rfl, ?_⟩) (by assumption) ?_
                rotate_left
                · (intro w hSw; (try dsimp only at hSw); go_simp; try with_reducible rfl)
                try simp only [Act.put, List.setIfInBounds_toArray, List.set_cons_zero, List.set_cons_succ]
                refine wpAnyH_take (i := 7) (oi := { dst := some 105, op := Op.fieldAddr 43 (Operand.tmp 5) 2, type := 0, pos := "laws.go:210", after := #[{ on := 6, ground := Ground.guard }], guard := some (6, false) }) (v := ?_) rfl (by kernel_rfl) (by kernel_rfl) (by kernel_rfl) (fun _ _ _ h => h) (Or.inl ⟨by rfl, ?_⟩) (by assumption) ?_
                rotate_left
                · (intro w hSw; (try dsimp only at hSw); go_simp; try with_reducible rfl)
                try simp only [Act.put, List.setIfInBounds_toArray, List.set_cons_zero, List.set_cons_succ]
                refine wpAnyH_take (i := 8) (oi := { dst := some 106, op := Op.load 24 (Operand.tmp 105), type := 24, pos := "laws.go:210", after := #[{ on := 7, ground := Ground.data }, { on := 6, ground := Ground.guard }], guard := some (6, false) }) (v := ?_) rfl (by kernel_rfl) (by kernel_rfl) (by kernel_rfl) (fun _ _ _ h => h) (Or.inl ⟨by rfl, ?_⟩) (by assumption) ?_
                rotate_left
                · (intro w hSw; (try dsimp only at hSw); go_simp; try with_reducible rfl)
                try simp only [Act.put, List.setIfInBounds_toArray, List.set_cons_zero, List.set_cons_succ]
                refine wpAnyH_take (i := 9) (oi := { dst := some 107, op := Op.call { callee := Callee.builtin Builtin.len, args := #[Operand.tmp 106], argTypes := #[24] }, type := 3, pos := "laws.go:210", after := #[{ on := 8, ground := Ground.data }, { on := 6, ground := Ground.guard }], guard := some (6, false) }) (v := ?_) rfl (by kernel_rfl) (by kernel_rfl) (by kernel_rfl) (fun _ _ _ h => h) (Or.inl ⟨by rfl, ?_⟩) (by assumption) ?_
                rotate_left
                · (intro w hSw; (try dsimp only at hSw); go_simp; try with_reducible rfl)
                try simp only [Act.put, List.setIfInBounds_toArray, List.set_cons_zero, List.set_cons_succ]
                refine wpAnyH_take (i := 10) (oi := { dst := some 108, op := Op.move (Operand.tmp 3), type := 24, pos := "laws.go:210", after := #[{ on := 6, ground := Ground.guard }], guard := some (6, false) }) (v := ?_) rfl (by kernel_rfl) (by kernel_rfl) (by kernel_rfl) (fun _ _ _ h => h) (Or.inl ⟨by rfl, ?_⟩) (by assumption) ?_
                rotate_left
                · (intro w hSw; (try dsimp only at hSw); go_simp; try with_reducible rfl)
                try simp only [Act.put, List.setIfInBounds_toArray, List.set_cons_zero, List.set_cons_succ]
                refine wpAnyH_take (i := 11) (oi := { dst := some 109, op := Op.call { callee := Callee.builtin Builtin.len, args := #[Operand.tmp 108], argTypes := #[24] }, type := 3, pos := "laws.go:210", after := #[{ on := 10, ground := Ground.data }, { on := 6, ground := Ground.guard }], guard := some (6, false) }) (v := ?_) rfl (by kernel_rfl) (by kernel_rfl) (by kernel_rfl) (fun _ _ _ h => h) (Or.inl ⟨by rfl, ?_⟩) (by assumption) ?_
                rotate_left
                · (intro w hSw; (try dsimp only at hSw); go_simp; try with_reducible rfl)
                try simp only [Act.put, List.setIfInBounds_toArray, List.set_cons_zero, List.set_cons_succ]
                refine wpAnyH_take (i := 12) (oi := { dst := some 110, op := Op.binOp BinOp.neq 3 (Operand.tmp 107) (Operand.tmp 109) 3, type := 4, pos := "laws.go:210", after := #[{ on := 9, ground := Ground.data }, { on := 11, ground := Ground.data }, { on := 6, ground := Ground.guard }], guard := some (6, false) }) (v := ?_) rfl (by kernel_rfl) (by kernel_rfl) (by kernel_rfl) (fun _ _ _ h => h) (Or.inl ⟨by rfl, ?_⟩) (by assumption) ?_
                rotate_left
                · (intro w hSw; (try dsimp only at hSw); go_simp; try with_reducible rfl)
                try simp only [Act.put, List.setIfInBounds_toArray, List.set_cons_zero, List.set_cons_succ]
                refine wpAnyH_take (i := 13) (oi := { dst := some 111, op := Op.pick (Operand.tmp 104) (Operand.const (Value.bool true)) (Operand.tmp 110), type := 4, pos := "laws.go:210", after := #[{ on := 6, ground := Ground.data }, { on := 12, ground := Ground.data }], guard := none }) (v := ?_) rfl (by kernel_rfl) (by kernel_rfl) (by kernel_rfl) (fun _ _ _ h => h) (Or.inl ⟨by rfl, ?_⟩) (by assumption) ?_
                rotate_left
                · (intro w hSw; (try dsimp only at hSw); go_simp; try with_reducible rfl)
                try simp only [Act.put, List.setIfInBounds_toArray, List.set_cons_zero, List.set_cons_succ]
                refine wpAnyH_take (i := 14) (oi := { dst := some 112, op := Op.move (Operand.tmp 111), type := 4, pos := "laws.go:210", after := #[{ on := 13, ground := Ground.data }, { on := 6, ground := Ground.chain }], guard := none }) (v := ?_) rfl (by kernel_rfl) (by kernel_rfl) (by kernel_rfl) (fun _ _ _ h => h) (Or.inl ⟨by rfl, ?_⟩) (by assumption) ?_
                rotate_left
                · (intro w hSw; (try dsimp only at hSw); go_simp; try with_reducible rfl)
                try simp only [Act.put, List.setIfInBounds_toArray, List.set_cons_zero, List.set_cons_succ]
                refine wpAnyH_take (i := 15) (oi := { dst := some 113, op := Op.move (Operand.tmp 9), type := 2, pos := "laws.go:210", after := #[{ on := 14, ground := Ground.guard }], guard := some (14, false) }) (v := ?_) rfl (by kernel_rfl) (by kernel_rfl) (by kernel_rfl) (fun _ _ _ h => h) (Or.inl ⟨by rfl, ?_⟩) (by assumption) ?_
                rotate_left
                · (intro w hSw; (try dsimp only at hSw); go_simp; try with_reducible rfl)
                try simp only [Act.put, List.setIfInBounds_toArray, List.set_cons_zero, List.set_cons_succ]
                refine wpAnyH_take (i := 17) (oi := { dst := some 115, op := Op.fieldAddr 43 (Operand.tmp 5) 1, type := 0, pos := "laws.go:210", after := #[{ on := 14, ground := Ground.guard }], guard := some (14, false) }) (v := ?_) rfl (by kernel_rfl) (by kernel_rfl) (by kernel_rfl) (fun _ _ _ h => h) (Or.inl ⟨by rfl, ?_⟩) (by assumption) ?_
                rotate_left
                · (intro w hSw; (try dsimp only at hSw); go_simp; try with_reducible rfl)
                try simp only [Act.put, List.setIfInBounds_toArray, List.set_cons_zero, List.set_cons_succ]
                refine wpAnyH_take (i := 18) (oi := { dst := some 116, op := Op.load 24 (Operand.tmp 115), type := 24, pos := "laws.go:210", after := #[{ on := 17, ground := Ground.data }, { on := 14, ground := Ground.guard }], guard := some (14, false) }) (v := ?_) rfl (by kernel_rfl) (by kernel_rfl) (by kernel_rfl) (fun _ _ _ h => h) (Or.inl ⟨by rfl, ?_⟩) (by assumption) ?_
                rotate_left
                · (intro w hSw; (try dsimp only at hSw); go_simp; try with_reducible rfl)
                try simp only [Act.put, List.setIfInBounds_toArray, List.set_cons_zero, List.set_cons_succ]
                refine wpAnyH_take (i := 19) (oi := { dst := some 117, op := Op.move (Operand.tmp 8), type := 3, pos := "laws.go:210", after := #[{ on := 14, ground := Ground.guard }], guard := some (14, false) }) (v := ?_) rfl (by kernel_rfl) (by kernel_rfl) (by kernel_rfl) (fun _ _ _ h => h) (Or.inl ⟨by rfl, ?_⟩) (by assumption) ?_
                rotate_left
                · (intro w hSw; (try dsimp only at hSw); go_simp; try with_reducible rfl)
                try simp only [Act.put, List.setIfInBounds_toArray, List.set_cons_zero, List.set_cons_succ]
                refine wpAnyH_take (i := 20) (oi := { dst := some 118, op := Op.indexAddr 24 (Operand.tmp 116) (Operand.tmp 117), type := 0, pos := "laws.go:210", after := #[{ on := 18, ground := Ground.data }, { on := 19, ground := Ground.data }, { on := 14, ground := Ground.guard }], guard := some (14, false) }) (v := ?_) rfl (by kernel_rfl) (by kernel_rfl) (by kernel_rfl) (fun _ _ _ h => h) (Or.inl ⟨by rfl, ?_⟩) (by assumption) ?_
                rotate_left
                · (intro w hSw; (try dsimp only at hSw); go_simp; try with_reducible rfl)
                try simp only [Act.put, List.setIfInBounds_toArray, List.set_cons_zero, List.set_cons_succ]
                refine wpAnyH_take (i := 21) (oi := { dst := some 119, op := Op.load 2 (Operand.tmp 118), type := 2, pos := "laws.go:210", after := #[{ on := 20, ground := Ground.data }, { on := 14, ground := Ground.guard }], guard := some (14, false) }) (v := ?_) rfl (by kernel_rfl) (by kernel_rfl) (by kernel_rfl) (fun _ _ _ h => h) (Or.inl ⟨by rfl, ?_⟩) (by assumption) ?_
                rotate_left
                · (intro w hSw; (try dsimp only at hSw); go_simp; try with_reducible rfl)
                try simp only [Act.put, List.setIfInBounds_toArray, List.set_cons_zero, List.set_cons_succ]
                refine wpAnyH_take (i := 22) (oi := { dst := some 120, op := Op.binOp BinOp.eql 2 (Operand.tmp 119) (Operand.const (Value.int IntKind.i64 (-1))) 2, type := 4, pos := "laws.go:210", after := #[{ on := 21, ground := Ground.data }, { on := 14, ground := Ground.guard }], guard := some (14, false) }) (v := ?_) rfl (by kernel_rfl) (by kernel_rfl) (by kernel_rfl) (fun _ _ _ h => h) (Or.inl ⟨by rfl, ?_⟩) (by assumption) ?_
                rotate_left
                · (intro w hSw; (try dsimp only at hSw); go_simp; try with_reducible rfl)
                try simp only [Act.put, List.setIfInBounds_toArray, List.set_cons_zero, List.set_cons_succ]
                refine wpAnyH_ready (rs := [16]) (by kernel_rfl) (by simp) ?_
                refine AllReadyH.cons (o := { dst := some 114, op := Op.call { callee := Callee.value (Operand.func 35), args := #[Operand.tmp 113], argTypes := #[2] }, type := 4, pos := "laws.go:210", after := #[{ on := 15, ground := Ground.data }, { on := 14, ground := Ground.chain }, { on := 14, ground := Ground.guard }], guard := some (14, false) }) rfl (fun K hK => ?_) AllReadyH.nil
                go_simp
                go_at_call 35
                refine (isGone_any qz _).mono ?_
                rintro e wA ⟨rfl, bA⟩
                have qbA : Below wq.drew.heap.size wq.drew wA := ⟨bA.os, bA.tape, bA.output, bA.size, bA.block⟩
                replace kEq := kEq.below qbA kEq.lt
                replace lc := (qbA.cell (p := ⟨bL, offL + k, none⟩) hlL).trans lc
                replace hlL := Nat.lt_of_lt_of_le hlL qbA.size
                replace BZ := Lib.hid (below_on BZ.out qbA (Nat.le_refl _))
                clear bA qbA
                rw [RB.out]
                try dsimp only
                refine hK.out _ _ ⟨kEq.cell 1 rfl, kEq.cell 2 rfl, lc⟩ (fun hHeld => ?_)
                clear hK K
                try simp only [Act.put, List.setIfInBounds_toArray, List.set_cons_zero, List.set_cons_succ]
                refine wpAnyH_take (i := 23) (oi := { dst := some 121, op := Op.binOp BinOp.neq 4 (Operand.tmp 114) (Operand.tmp 120) 4, type := 4, pos := "laws.go:210", after := #[{ on := 16, ground := Ground.data }, { on := 22, ground := Ground.data }, { on := 14, ground := Ground.guard }], guard := some (14, false) }) (v := ?_) rfl (by kernel_rfl) (by kernel_rfl) (by kernel_rfl) (fun _ _ _ h => h) (Or.inl ⟨by rfl, ?_⟩) (by assumption) ?_
                rotate_left
                · (intro w hSw; (try dsimp only at hSw); go_simp; try with_reducible rfl)
                try simp only [Act.put, List.setIfInBounds_toArray, List.set_cons_zero, List.set_cons_succ]
                refine wpAnyH_take (i := 24) (oi := { dst := some 122, op := Op.pick (Operand.tmp 112) (Operand.const (Value.bool true)) (Operand.tmp 121), type := 4, pos := "laws.go:210", after := #[{ on := 14, ground := Ground.data }, { on := 23, ground := Ground.data }], guard := none }) (v := ?_) rfl (by kernel_rfl) (by kernel_rfl) (by kernel_rfl) (fun _ _ _ h => h) (Or.inl ⟨by rfl, ?_⟩) (by assumption) ?_
                rotate_left
                · (intro w hSw; (try dsimp only at hSw); go_simp; try with_reducible rfl)
                try simp only [Act.put, List.setIfInBounds_toArray, List.set_cons_zero, List.set_cons_succ]
                refine wpAnyH_take (i := 25) (oi := { dst := some 123, op := Op.move (Operand.tmp 122), type := 4, pos := "laws.go:210", after := #[{ on := 24, ground := Ground.data }, { on := 16, ground := Ground.chain }], guard := none }) (v := ?_) rfl (by kernel_rfl) (by kernel_rfl) (by kernel_rfl) (fun _ _ _ h => h) (Or.inl ⟨by rfl, ?_⟩) (by assumption) ?_
                rotate_left
                · (intro w hSw; (try dsimp only at hSw); go_simp; try with_reducible rfl)
                try simp only [Act.put, List.setIfInBounds_toArray, List.set_cons_zero, List.set_cons_succ]
                refine wpAnyH_take (i := 26) (oi := { dst := some 124, op := Op.fieldAddr 43 (Operand.tmp 5) 1, type := 0, pos := "laws.go:210", after := #[{ on := 25, ground := Ground.guard }], guard := some (25, false) }) (v := ?_) rfl (by kernel_rfl) (by kernel_rfl) (by kernel_rfl) (fun _ _ _ h => h) (Or.inl ⟨by rfl, ?_⟩) (by assumption) ?_
                rotate_left
                · (intro w hSw; (try dsimp only at hSw); go_simp; try with_reducible rfl)
                try simp only [Act.put, List.setIfInBounds_toArray, List.set_cons_zero, List.set_cons_succ]
                refine wpAnyH_take (i := 27) (oi := { dst := some 125, op := Op.load 24 (Operand.tmp 124), type := 24, pos := "laws.go:210", after := #[{ on := 26, ground := Ground.data }, { on := 25, ground := Ground.guard }], guard := some (25, false) }) (v := ?_) rfl (by kernel_rfl) (by kernel_rfl) (by kernel_rfl) (fun _ _ _ h => h) (Or.inl ⟨by rfl, ?_⟩) (by assumption) ?_
                rotate_left
                · (intro w hSw; (try dsimp only at hSw); go_simp; try with_reducible rfl)
                try simp only [Act.put, List.setIfInBounds_toArray, List.set_cons_zero, List.set_cons_succ]
                refine wpAnyH_take (i := 28) (oi := { dst := some 126, op := Op.move (Operand.tmp 8), type := 3, pos := "laws.go:210", after := #[{ on := 25, ground := Ground.guard }], guard := some (25, false) }) (v := ?_) rfl (by kernel_rfl) (by kernel_rfl) (by kernel_rfl) (fun _ _ _ h => h) (Or.inl ⟨by rfl, ?_⟩) (by assumption) ?_
                rotate_left
                · (intro w hSw; (try dsimp only at hSw); go_simp; try with_reducible rfl)
                try simp only [Act.put, List.setIfInBounds_toArray, List.set_cons_zero, List.set_cons_succ]
                refine wpAnyH_take (i := 29) (oi := { dst := some 127, op := Op.indexAddr 24 (Operand.tmp 125) (Operand.tmp 126), type := 0, pos := "laws.go:210", after := #[{ on := 27, ground := Ground.data }, { on := 28, ground := Ground.data }, { on := 25, ground := Ground.guard }], guard := some (25, false) }) (v := ?_) rfl (by kernel_rfl) (by kernel_rfl) (by kernel_rfl) (fun _ _ _ h => h) (Or.inl ⟨by rfl, ?_⟩) (by assumption) ?_
                rotate_left
                · (intro w hSw; (try dsimp only at hSw); go_simp; try with_reducible rfl)
                try simp only [Act.put, List.setIfInBounds_toArray, List.set_cons_zero, List.set_cons_succ]
                refine wpAnyH_take (i := 30) (oi := { dst := some 128, op := Op.load 2 (Operand.tmp 127), type := 2, pos := "laws.go:210", after := #[{ on := 29, ground := Ground.data }, { on := 25, ground := Ground.guard }], guard := some (25, false) }) (v := ?_) rfl (by kernel_rfl) (by kernel_rfl) (by kernel_rfl) (fun _ _ _ h => h) (Or.inl ⟨by rfl, ?_⟩) (by assumption) ?_
                rotate_left
                · (intro w hSw; (try dsimp only at hSw); go_simp; try with_reducible rfl)
                try simp only [Act.put, List.setIfInBounds_toArray, List.set_cons_zero, List.set_cons_succ]
                refine wpAnyH_take (i := 31) (oi := { dst := some 129, op := Op.binOp BinOp.gtr 2 (Operand.tmp 128) (Operand.const (Value.int IntKind.i64 125)) 2, type := 4, pos := "laws.go:210", after := #[{ on := 30, ground := Ground.data }, { on := 25, ground := Ground.guard }], guard := some (25, false) }) (v := ?_) rfl (by kernel_rfl) (by kernel_rfl) (by kernel_rfl) (fun _ _ _ h => h) (Or.inl ⟨by rfl, ?_⟩) (by assumption) ?_
                rotate_left
                · (intro w hSw; (try dsimp only at hSw); go_simp; try with_reducible rfl)
                try simp only [Act.put, List.setIfInBounds_toArray, List.set_cons_zero, List.set_cons_succ]
                refine wpAnyH_take (i := 32) (oi := { dst := some 130, op := Op.pick (Operand.tmp 123) (Operand.const (Value.bool true)) (Operand.tmp 129), type := 4, pos := "laws.go:210", after := #[{ on := 25, ground := Ground.data }, { on := 31, ground := Ground.data }], guard := none }) (v := ?_) rfl (by kernel_rfl) (by kernel_rfl) (by kernel_rfl) (fun _ _ _ h => h) (Or.inl ⟨by rfl, ?_⟩) (by assumption) ?_
                rotate_left
                · (intro w hSw; (try dsimp only at hSw); go_simp; try with_reducible rfl)
                try simp only [Act.put, List.setIfInBounds_toArray, List.set_cons_zero, List.set_cons_succ]
                refine wpAnyH_take (i := 33) (oi := { dst := some 131, op := Op.move (Operand.tmp 130), type := 4, pos := "laws.go:210", after := #[{ on := 32, ground := Ground.data }, { on := 25, ground := Ground.chain }], guard := none }) (v := ?_) rfl (by kernel_rfl) (by kernel_rfl) (by kernel_rfl) (fun _ _ _ h => h) (Or.inl ⟨by rfl, ?_⟩) (by assumption) ?_
                rotate_left
                · (intro w hSw; (try dsimp only at hSw); go_simp; try with_reducible rfl)
                try simp only [Act.put, List.setIfInBounds_toArray, List.set_cons_zero, List.set_cons_succ]
                refine wpAnyH_take (i := 34) (oi := { dst := some 132, op := Op.move (Operand.tmp 9), type := 2, pos := "laws.go:210", after := #[{ on := 33, ground := Ground.guard }], guard := some (33, false) }) (v := ?_) rfl (by kernel_rfl) (by kernel_rfl) (by kernel_rfl) (fun _ _ _ h => h) (Or.inl ⟨by rfl, ?_⟩) (by assumption) ?_
                rotate_left
                · (intro w hSw; (try dsimp only at hSw); go_simp; try with_reducible rfl)
                try simp only [Act.put, List.setIfInBounds_toArray, List.set_cons_zero, List.set_cons_succ]
                refine wpAnyH_ready (rs := [35]) (by kernel_rfl) (by simp) ?_
                refine AllReadyH.cons (o := { dst := some 133, op := Op.call { callee := Callee.value (Operand.func 35), args := #[Operand.tmp 132], argTypes := #[2] }, type := 4, pos := "laws.go:210", after := #[{ on := 34, ground := Ground.data }, { on := 33, ground := Ground.chain }, { on := 33, ground := Ground.guard }], guard := some (33, false) }) rfl (fun K hK => ?_) AllReadyH.nil
                go_simp
                go_at_call 35
                refine (isGone_any qz _).mono ?_
                rintro e wB ⟨rfl, bB⟩
                have qbB : Below wA.heap.size wA wB := ⟨bB.os, bB.tape, bB.output, bB.size, bB.block⟩
                replace kEq := kEq.below qbB kEq.lt
                replace lc := (qbB.cell (p := ⟨bL, offL + k, none⟩) hlL).trans lc
                replace hlL := Nat.lt_of_lt_of_le hlL qbB.size
                replace BZ := Lib.hid (below_on BZ.out qbB (Nat.le_refl _))
                clear bB qbB
                rw [RB.out]
                try dsimp only
                refine hK.out _ _ ⟨kEq.cell 1 rfl, kEq.cell 2 rfl, lc⟩ (fun hHeld => ?_)
                clear hK K
                try simp only [Act.put, List.setIfInBounds_toArray, List.set_cons_zero, List.set_cons_succ]
                refine wpAnyH_take (i := 36) (oi := { dst := some 134, op := Op.unOp UnOp.not 4 (Operand.tmp 133), type := 4, pos := "laws.go:210", after := #[{ on := 35, ground := Ground.data }, { on := 33, ground := Ground.guard }], guard := some (33, false) }) (v := ?_) rfl (by kernel_rfl) (by kernel_rfl) (by kernel_rfl) (fun _ _ _ h => h) (Or.inl ⟨by rfl, ?_⟩) (by assumption) ?_
                rotate_left
                · (intro w hSw; (try dsimp only at hSw); go_simp; try with_reducible rfl)
                try simp only [Act.put, List.setIfInBounds_toArray, List.set_cons_zero, List.set_cons_succ]
                refine wpAnyH_take (i := 37) (oi := { dst := some 135, op := Op.move (Operand.tmp 134), type := 4, pos := "laws.go:210", after := #[{ on := 36, ground := Ground.data }, { on := 35, ground := Ground.chain }, { on := 33, ground := Ground.guard }], guard := some (33, false) }) (v := ?_) rfl (by kernel_rfl) (by kernel_rfl) (by kernel_rfl) (fun _ _ _ h => h) (Or.inl ⟨by rfl, ?_⟩) (by assumption) ?_
                rotate_left
                · (intro w hSw; (try dsimp only at hSw); go_simp; try with_reducible rfl)
                try simp only [Act.put, List.setIfInBounds_toArray, List.set_cons_zero, List.set_cons_succ]
                refine wpAnyH_take (i := 38) (oi := { dst := some 136, op := Op.fieldAddr 43 (Operand.tmp 5) 1, type := 0, pos := "laws.go:210", after := #[{ on := 37, ground := Ground.guard }], guard := some (37, true) }) (v := ?_) rfl (by kernel_rfl) (by kernel_rfl) (by kernel_rfl) (fun _ _ _ h => h) (Or.inl ⟨by rfl, ?_⟩) (by assumption) ?_
                rotate_left
                · (intro w hSw; (try dsimp only at hSw); go_simp; try with_reducible rfl)
                try simp only [Act.put, List.setIfInBounds_toArray, List.set_cons_zero, List.set_cons_succ]
                refine wpAnyH_take (i := 39) (oi := { dst := some 137, op := Op.load 24 (Operand.tmp 136), type := 24, pos := "laws.go:210", after := #[{ on := 38, ground := Ground.data }, { on := 37, ground := Ground.guard }], guard := some (37, true) }) (v := ?_) rfl (by kernel_rfl) (by kernel_rfl) (by kernel_rfl) (fun _ _ _ h => h) (Or.inl ⟨by rfl, ?_⟩) (by assumption) ?_
                rotate_left
                · (intro w hSw; (try dsimp only at hSw); go_simp; try with_reducible rfl)
                try simp only [Act.put, List.setIfInBounds_toArray, List.set_cons_zero, List.set_cons_succ]
                refine wpAnyH_take (i := 40) (oi := { dst := some 138, op := Op.move (Operand.tmp 8), type := 3, pos := "laws.go:210", after := #[{ on := 37, ground := Ground.guard }], guard := some (37, true) }) (v := ?_) rfl (by kernel_rfl) (by kernel_rfl) (by kernel_rfl) (fun _ _ _ h => h) (Or.inl ⟨by rfl, ?_⟩) (by assumption) ?_
                rotate_left
                · (intro w hSw; (try dsimp only at hSw); go_simp; try with_reducible rfl)
                try simp only [Act.put, List.setIfInBounds_toArray, List.set_cons_zero, List.set_cons_succ]
                refine wpAnyH_take (i := 41) (oi := { dst := some 139, op := Op.indexAddr 24 (Operand.tmp 137) (Operand.tmp 138), type := 0, pos := "laws.go:210", after := #[{ on := 39, ground := Ground.data }, { on := 40, ground := Ground.data }, { on := 37, ground := Ground.guard }], guard := some (37, true) }) (v := ?_) rfl (by kernel_rfl) (by kernel_rfl) (by kernel_rfl) (fun _ _ _ h => h) (Or.inl ⟨by rfl, ?_⟩) (by assumption) ?_
                rotate_left
                · (intro w hSw; (try dsimp only at hSw); go_simp; try with_reducible rfl)
                try simp only [Act.put, List.setIfInBounds_toArray, List.set_cons_zero, List.set_cons_succ]
                refine wpAnyH_take (i := 42) (oi := { dst := some 140, op := Op.load 2 (Operand.tmp 139), type := 2, pos := "laws.go:210", after := #[{ on := 41, ground := Ground.data }, { on := 37, ground := Ground.guard }], guard := some (37, true) }) (v := ?_) rfl (by kernel_rfl) (by kernel_rfl) (by kernel_rfl) (fun _ _ _ h => h) (Or.inl ⟨by rfl, ?_⟩) (by assumption) ?_
                rotate_left
                · (intro w hSw; (try dsimp only at hSw); go_simp; try with_reducible rfl)
                try simp only [Act.put, List.setIfInBounds_toArray, List.set_cons_zero, List.set_cons_succ]
                refine wpAnyH_take (i := 43) (oi := { dst := some 141, op := Op.move (Operand.tmp 4), type := 2, pos := "laws.go:210", after := #[{ on := 37, ground := Ground.guard }], guard := some (37, true) }) (v := ?_) rfl (by kernel_rfl) (by kernel_rfl) (by kernel_rfl) (fun _ _ _ h => h) (Or.inl ⟨by rfl, ?_⟩) (by assumption) ?_
                rotate_left
                · (intro w hSw; (try dsimp only at hSw); go_simp; try with_reducible rfl)
                try simp only [Act.put, List.setIfInBounds_toArray, List.set_cons_zero, List.set_cons_succ]
                refine wpAnyH_take (i := 44) (oi := { dst := some 142, op := Op.binOp BinOp.lss 2 (Operand.tmp 140) (Operand.tmp 141) 2, type := 4, pos := "laws.go:210", after := #[{ on := 42, ground := Ground.data }, { on := 43, ground := Ground.data }, { on := 37, ground := Ground.guard }], guard := some (37, true) }) (v := ?_) rfl (by kernel_rfl) (by kernel_rfl) (by kernel_rfl) (fun _ _ _ h => h) (Or.inl ⟨by rfl, ?_⟩) (by assumption) ?_
                rotate_left
                · (intro w hSw; (try dsimp only at hSw); go_simp; try with_reducible rfl)
                try simp only [Act.put, List.setIfInBounds_toArray, List.set_cons_zero, List.set_cons_succ]
                refine wpAnyH_take (i := 45) (oi := { dst := some 143, op := Op.pick (Operand.tmp 135) (Operand.tmp 142) (Operand.const (Value.bool false)), type := 4, pos := "laws.go:210", after := #[{ on := 37, ground := Ground.data }, { on := 44, ground := Ground.data }, { on := 33, ground := Ground.guard }], guard := some (33, false) }) (v := ?_) rfl (by kernel_rfl) (by kernel_rfl) (by kernel_rfl) (fun _ _ _ h => h) (Or.inl ⟨by rfl, ?_⟩) (by assumption) ?_
                rotate_left
                · (intro w hSw; (try dsimp only at hSw); go_simp; try with_reducible rfl)
                try simp only [Act.put, List.setIfInBounds_toArray, List.set_cons_zero, List.set_cons_succ]
                refine wpAnyH_take (i := 46) (oi := { dst := some 144, op := Op.pick (Operand.tmp 131) (Operand.const (Value.bool true)) (Operand.tmp 143), type := 4, pos := "laws.go:210", after := #[{ on := 33, ground := Ground.data }, { on := 45, ground := Ground.data }], guard := none }) (v := ?_) rfl (by kernel_rfl) (by kernel_rfl) (by kernel_rfl) (fun _ _ _ h => h) (Or.inl ⟨by rfl, ?_⟩) (by assumption) ?_
                rotate_left
                · (intro w hSw; (try dsimp only at hSw); go_simp; try with_reducible rfl)
                try simp only [Act.put, List.setIfInBounds_toArray, List.set_cons_zero, List.set_cons_succ]
                refine wpAnyH_done (by kernel_rfl) ?_ _
                go_wp2
                go_roundw
                case rel => exact ⟨k + 1, _, by omega, by go_num, rfl, XN2, BZ⟩
                case measure => first | omega | (simp [intOf]; omega)
              · have XN2 := Lib.hid (show false = anyOwn (classesN ts) (k + 1) by rw [XN.out, go]; rfl)
                go_wp2_with fail
                have bz : Below wq.heap.size wq wq.drew := ⟨rfl, rfl, rfl, Nat.le_refl _, fun _ _ => rfl⟩
                replace kEq := kEq.below bz kEq.lt
                replace lc : wq.drew.cell? ⟨bL, offL + k, none⟩ = some (.int .i64 vz) := lc
                have BZ := Lib.hid (below_on BQ.out bz (Nat.le_refl _))
                have hlL : bL < wq.drew.heap.size := World.block_lt_of_cell? _ _ lc
                clear bz
                refine wp_region_held_drew (S := fun w' => w'.cell? ⟨w2.heap.size, 1, none⟩ = some (.slice (some ⟨bL, offL, none⟩) (explL ts b).length c2) ∧ w'.cell? ⟨w2.heap.size, 2, none⟩ = some (.slice A3 (explC ts b).length c3) ∧ w'.cell? ⟨bL, offL + k, none⟩ = some (.int .i64 vz)) (by kernel_rfl) ⟨kEq.cell 1 rfl, kEq.cell 2 rfl, lc⟩ (fun hHeld => ?_)
                refine wpAnyH_take (i := 0) (oi := { dst := some 98, op := Op.fieldAddr 43 (Operand.tmp 5) 1, type := 0, pos := "laws.go:210", after := #[], guard := none }) (v := ?_) rfl (by kernel_rfl) (by kernel_rfl) (by kernel_rfl) (fun _ _ _ h => h) (Or.inl ⟨by rfl, ?_⟩) (by assumption) ?_
                rotate_left
                · (intro w hSw; (try dsimp only at hSw); go_simp; try with_reducible rfl)
                try simp only [Act.put, List.setIfInBounds_toArray, List.set_cons_zero, List.set_cons_succ]
                refine wpAnyH_take (i := 1) (oi := { dst := some 99, op := Op.load 24 (Operand.tmp 98), type := 24, pos := "laws.go:210", after := #[{ on := 0, ground := Ground.data }], guard := none }) (v := ?_) rfl (by kernel_rfl) (by kernel_rfl) (by kernel_rfl) (fun _ _ _ h => h) (Or.inl ⟨by rfl, ?_⟩) (by assumption) ?_
                rotate_left
                · (intro w hSw; (try dsimp only at hSw); go_simp; try with_reducible rfl)
                try simp only [Act.put, List.setIfInBounds_toArray, List.set_cons_zero, List.set_cons_succ]
                refine wpAnyH_take (i := 2) (oi := { dst := some 100, op := Op.call { callee := Callee.builtin Builtin.len, args := #[Operand.tmp 99], argTypes := #[24] }, type := 3, pos := "laws.go:210", after := #[{ on := 1, ground := Ground.data }], guard := none }) (v := ?_) rfl (by kernel_rfl) (by kernel_rfl) (by kernel_rfl) (fun _ _ _ h => h) (Or.inl ⟨by rfl, ?_⟩) (by assumption) ?_
                rotate_left
                · (intro w hSw; (try dsimp only at hSw); go_simp; try with_reducible rfl)
                try simp only [Act.put, List.setIfInBounds_toArray, List.set_cons_zero, List.set_cons_succ]
                refine wpAnyH_take (i := 3) (oi := { dst := some 101, op := Op.move (Operand.tmp 3), type := 24, pos := "laws.go:210", after := #[], guard := none }) (v := ?_) rfl (by kernel_rfl) (by kernel_rfl) (by kernel_rfl) (fun _ _ _ h => h) (Or.inl ⟨by rfl, ?_⟩) (by assumption) ?_
                rotate_left
                · (intro w hSw; (try dsimp only at hSw); go_simp; try with_reducible rfl)
                try simp only [Act.put, List.setIfInBounds_toArray, List.set_cons_zero, List.set_cons_succ]
                refine wpAnyH_take (i := 4) (oi := { dst := some 102, op := Op.call { callee := Callee.builtin Builtin.len, args := #[Operand.tmp 101], argTypes := #[24] }, type := 3, pos := "laws.go:210", after := #[{ on := 3, ground := Ground.data }], guard := none }) (v := ?_) rfl (by kernel_rfl) (by kernel_rfl) (by kernel_rfl) (fun _ _ _ h => h) (Or.inl ⟨by rfl, ?_⟩) (by assumption) ?_
                rotate_left
                · (intro w hSw; (try dsimp only at hSw); go_simp; try with_reducible rfl)
                try simp only [Act.put, List.setIfInBounds_toArray, List.set_cons_zero, List.set_cons_succ]
                refine wpAnyH_take (i := 5) (oi := { dst := some 103, op := Op.binOp BinOp.neq 3 (Operand.tmp 100) (Operand.tmp 102) 3, type := 4, pos := "laws.go:210", after := #[{ on := 2, ground := Ground.data }, { on := 4, ground := Ground.data }], guard := none }) (v := ?_) rfl (by kernel_rfl) (by kernel_rfl) (by kernel_rfl) (fun _ _ _ h => h) (Or.inl ⟨by rfl, ?_⟩) (by assumption) ?_
                rotate_left
                · (intro w hSw; (try dsimp only at hSw); go_simp; try with_reducible rfl)
                try simp only [Act.put, List.setIfInBounds_toArray, List.set_cons_zero, List.set_cons_succ]
                refine wpAnyH_take (i := 6) (oi := { dst := some 104, op := Op.move (Operand.tmp 103), type := 4, pos := "laws.go:210", after := #[{ on := 5, ground := Ground.data }], guard := none }) (v := ?_) rfl (by kernel_rfl) (by kernel_rfl) (by kernel_rfl) (fun _ _ _ h => h) (Or.inl ⟨by rfl, ?_⟩) (by assumption) ?_
                rotate_left
                · (intro w hSw; (try dsimp only at hSw); go_simp; try with_reducible rfl)
                try simp only [Act.put, List.setIfInBounds_toArray, List.set_cons_zero, List.set_cons_succ]
                refine wpAnyH_take (i := 7) (oi := { dst := some 105, op := Op.fieldAddr 43 (Operand.tmp 5) 2, type := 0, pos := "laws.go:210", after := #[{ on := 6, ground := Ground.guard }], guard := some (6, false) }) (v := ?_) rfl (by kernel_rfl) (by kernel_rfl) (by kernel_rfl) (fun _ _ _ h => h) (Or.inl ⟨by rfl, ?_⟩) (by assumption) ?_
                rotate_left
                · (intro w hSw; (try dsimp only at hSw); go_simp; try with_reducible rfl)
                try simp only [Act.put, List.setIfInBounds_toArray, List.set_cons_zero, List.set_cons_succ]
                refine wpAnyH_take (i := 8) (oi := { dst := some 106, op := Op.load 24 (Operand.tmp 105), type := 24, pos := "laws.go:210", after := #[{ on := 7, ground := Ground.data }, { on := 6, ground := Ground.guard }], guard := some (6, false) }) (v := ?_) rfl (by kernel_rfl) (by kernel_rfl) (by kernel_rfl) (fun _ _ _ h => h) (Or.inl ⟨by rfl, ?_⟩) (by assumption) ?_
                rotate_left
                · (intro w hSw; (try dsimp only at hSw); go_simp; try with_reducible rfl)
                try simp only [Act.put, List.setIfInBounds_toArray, List.set_cons_zero, List.set_cons_succ]
                refine wpAnyH_take (i := 9) (oi := { dst := some 107, op := Op.call { callee := Callee.builtin Builtin.len, args := #[Operand.tmp 106], argTypes := #[24] }, type := 3, pos := "laws.go:210", after := #[{ on := 8, ground := Ground.data }, { on := 6, ground := Ground.guard }], guard := some (6, false) }) (v := ?_) rfl (by kernel_rfl) (by kernel_rfl) (by kernel_rfl) (fun _ _ _ h => h) (Or.inl ⟨by rfl, ?_⟩) (by assumption) ?_
                rotate_left
                · (intro w hSw; (try dsimp only at hSw); go_simp; try with_reducible rfl)
                try simp only [Act.put, List.setIfInBounds_toArray, List.set_cons_zero, List.set_cons_succ]
                refine wpAnyH_take (i := 10) (oi := { dst := some 108, op := Op.move (Operand.tmp 3), type := 24, pos := "laws.go:210", after := #[{ on := 6, ground := Ground.guard }], guard := some (6, false) }) (v := ?_) rfl (by kernel_rfl) (by kernel_rfl) (by kernel_rfl) (fun _ _ _ h => h) (Or.inl ⟨by rfl, ?_⟩) (by assumption) ?_
                rotate_left
                · (intro w hSw; (try dsimp only at hSw); go_simp; try with_reducible rfl)
                try simp only [Act.put, List.setIfInBounds_toArray, List.set_cons_zero, List.set_cons_succ]
                refine wpAnyH_take (i := 11) (oi := { dst := some 109, op := Op.call { callee := Callee.builtin Builtin.len, args := #[Operand.tmp 108], argTypes := #[24] }, type := 3, pos := "laws.go:210", after := #[{ on := 10, ground := Ground.data }, { on := 6, ground := Ground.guard }], guard := some (6, false) }) (v := ?_) rfl (by kernel_rfl) (by kernel_rfl) (by kernel_rfl) (fun _ _ _ h => h) (Or.inl ⟨by rfl, ?_⟩) (by assumption) ?_
                rotate_left
                · (intro w hSw; (try dsimp only at hSw); go_simp; try with_reducible rfl)
                try simp only [Act.put, List.setIfInBounds_toArray, List.set_cons_zero, List.set_cons_succ]
                refine wpAnyH_take (i := 12) (oi := { dst := some 110, op := Op.binOp BinOp.neq 3 (Operand.tmp 107) (Operand.tmp 109) 3, type := 4, pos := "laws.go:210", after := #[{ on := 9, ground := Ground.data }, { on := 11, ground := Ground.data }, { on := 6, ground := Ground.guard }], guard := some (6, false) }) (v := ?_) rfl (by kernel_rfl) (by kernel_rfl) (by kernel_rfl) (fun _ _ _ h => h) (Or.inl ⟨by rfl, ?_⟩) (by assumption) ?_
                rotate_left
                · (intro w hSw; (try dsimp only at hSw); go_simp; try with_reducible rfl)
                try simp only [Act.put, List.setIfInBounds_toArray, List.set_cons_zero, List.set_cons_succ]
                refine wpAnyH_take (i := 13) (oi := { dst := some 111, op := Op.pick (Operand.tmp 104) (Operand.const (Value.bool true)) (Operand.tmp 110), type := 4, pos := "laws.go:210", after := #[{ on := 6, ground := Ground.data }, { on := 12, ground := Ground.data }], guard := none }) (v := ?_) rfl (by kernel_rfl) (by kernel_rfl) (by kernel_rfl) (fun _ _ _ h => h) (Or.inl ⟨by rfl, ?_⟩) (by assumption) ?_
                rotate_left
                · (intro w hSw; (try dsimp only at hSw); go_simp; try with_reducible rfl)
                try simp only [Act.put, List.setIfInBounds_toArray, List.set_cons_zero, List.set_cons_succ]
                refine wpAnyH_take (i := 14) (oi := { dst := some 112, op := Op.move (Operand.tmp 111), type := 4, pos := "laws.go:210", after := #[{ on := 13, ground := Ground.data }, { on := 6, ground := Ground.chain }], guard := none }) (v := ?_) rfl (by kernel_rfl) (by kernel_rfl) (by kernel_rfl) (fun _ _ _ h => h) (Or.inl ⟨by rfl, ?_⟩) (by assumption) ?_
                rotate_left
                · (intro w hSw; (try dsimp only at hSw); go_simp; try with_reducible rfl)
                try simp only [Act.put, List.setIfInBounds_toArray, List.set_cons_zero, List.set_cons_succ]
                refine wpAnyH_take (i := 15) (oi := { dst := some 113, op := Op.move (Operand.tmp 9), type := 2, pos := "laws.go:210", after := #[{ on := 14, ground := Ground.guard }], guard := some (14, false) }) (v := ?_) rfl (by kernel_rfl) (by kernel_rfl) (by kernel_rfl) (fun _ _ _ h => h) (Or.inl ⟨by rfl, ?_⟩) (by assumption) ?_
                rotate_left
                · (intro w hSw; (try dsimp only at hSw); go_simp; try with_reducible rfl)
                try simp only [Act.put, List.setIfInBounds_toArray, List.set_cons_zero, List.set_cons_succ]
                refine wpAnyH_take (i := 17) (oi := { dst := some 115, op := Op.fieldAddr 43 (Operand.tmp 5) 1, type := 0, pos := "laws.go:210", after := #[{ on := 14, ground := Ground.guard }], guard := some (14, false) }) (v := ?_) rfl (by kernel_rfl) (by kernel_rfl) (by kernel_rfl) (fun _ _ _ h => h) (Or.inl ⟨by rfl, ?_⟩) (by assumption) ?_
                rotate_left
                · (intro w hSw; (try dsimp only at hSw); go_simp; try with_reducible rfl)
                try simp only [Act.put, List.setIfInBounds_toArray, List.set_cons_zero, List.set_cons_succ]
                refine wpAnyH_take (i := 18) (oi := { dst := some 116, op := Op.load 24 (Operand.tmp 115), type := 24, pos := "laws.go:210", after := #[{ on := 17, ground := Ground.data }, { on := 14, ground := Ground.guard }], guard := some (14, false) }) (v := ?_) rfl (by kernel_rfl) (by kernel_rfl) (by kernel_rfl) (fun _ _ _ h => h) (Or.inl ⟨by rfl, ?_⟩) (by assumption) ?_
                rotate_left
                · (intro w hSw; (try dsimp only at hSw); go_simp; try with_reducible rfl)
                try simp only [Act.put, List.setIfInBounds_toArray, List.set_cons_zero, List.set_cons_succ]
                refine wpAnyH_take (i := 19) (oi := { dst := some 117, op := Op.move (Operand.tmp 8), type := 3, pos := "laws.go:210", after := #[{ on := 14, ground := Ground.guard }], guard := some (14, false) }) (v := ?_) rfl (by kernel_rfl) (by kernel_rfl) (by kernel_rfl) (fun _ _ _ h => h) (Or.inl ⟨by rfl, ?_⟩) (by assumption) ?_
                rotate_left
                · (intro w hSw; (try dsimp only at hSw); go_simp; try with_reducible rfl)
                try simp only [Act.put, List.setIfInBounds_toArray, List.set_cons_zero, List.set_cons_succ]
                refine wpAnyH_take (i := 20) (oi := { dst := some 118, op := Op.indexAddr 24 (Operand.tmp 116) (Operand.tmp 117), type := 0, pos := "laws.go:210", after := #[{ on := 18, ground := Ground.data }, { on := 19, ground := Ground.data }, { on := 14, ground := Ground.guard }], guard := some (14, false) }) (v := ?_) rfl (by kernel_rfl) (by kernel_rfl) (by kernel_rfl) (fun _ _ _ h => h) (Or.inl ⟨by rfl, ?_⟩) (by assumption) ?_
                rotate_left
                · (intro w hSw; (try dsimp only at hSw); go_simp; try with_reducible rfl)
                try simp only [Act.put, List.setIfInBounds_toArray, List.set_cons_zero, List.set_cons_succ]
                refine wpAnyH_take (i := 21) (oi := { dst := some 119, op := Op.load 2 (Operand.tmp 118), type := 2, pos := "laws.go:210", after := #[{ on := 20, ground := Ground.data }, { on := 14, ground := Ground.guard }], guard := some (14, false) }) (v := ?_) rfl (by kernel_rfl) (by kernel_rfl) (by kernel_rfl) (fun _ _ _ h => h) (Or.inl ⟨by rfl, ?_⟩) (by assumption) ?_
                rotate_left
                · (intro w hSw; (try dsimp only at hSw); go_simp; try with_reducible rfl)
                try simp only [Act.put, List.setIfInBounds_toArray, List.set_cons_zero, List.set_cons_succ]
                refine wpAnyH_take (i := 22) (oi := { dst := some 120, op := Op.binOp BinOp.eql 2 (Operand.tmp 119) (Operand.const (Value.int IntKind.i64 (-1))) 2, type := 4, pos := "laws.go:210", after := #[{ on := 21, ground := Ground.data }, { on := 14, ground := Ground.guard }], guard := some (14, false) }) (v := ?_) rfl (by kernel_rfl) (by kernel_rfl) (by kernel_rfl) (fun _ _ _ h => h) (Or.inl ⟨by rfl, ?_⟩) (by assumption) ?_
                rotate_left
                · (intro w hSw; (try dsimp only at hSw); go_simp; try with_reducible rfl)
                try simp only [Act.put, List.setIfInBounds_toArray, List.set_cons_zero, List.set_cons_succ]
                refine wpAnyH_ready (rs := [16]) (by kernel_rfl) (by simp) ?_
                refine AllReadyH.cons (o := { dst := some 114, op := Op.call { callee := Callee.value (Operand.func 35), args := #[Operand.tmp 113], argTypes := #[2] }, type := 4, pos := "laws.go:210", after := #[{ on := 15, ground := Ground.data }, { on := 14, ground := Ground.chain }, { on := 14, ground := Ground.guard }], guard := some (14, false) }) rfl (fun K hK => ?_) AllReadyH.nil
                go_simp
                go_at_call 35
                refine (isGone_any qz _).mono ?_
                rintro e wA ⟨rfl, bA⟩
                have qbA : Below wq.drew.heap.size wq.drew wA := ⟨bA.os, bA.tape, bA.output, bA.size, bA.block⟩
                replace kEq := kEq.below qbA kEq.lt
                replace lc := (qbA.cell (p := ⟨bL, offL + k, none⟩) hlL).trans lc
                replace hlL := Nat.lt_of_lt_of_le hlL qbA.size
                replace BZ := Lib.hid (below_on BZ.out qbA (Nat.le_refl _))
                clear bA qbA
                rw [RB.out]
                try dsimp only
                refine hK.out _ _ ⟨kEq.cell 1 rfl, kEq.cell 2 rfl, lc⟩ (fun hHeld => ?_)
                clear hK K
                try simp only [Act.put, List.setIfInBounds_toArray, List.set_cons_zero, List.set_cons_succ]
                refine wpAnyH_take (i := 23) (oi := { dst := some 121, op := Op.binOp BinOp.neq 4 (Operand.tmp 114) (Operand.tmp 120) 4, type := 4, pos := "laws.go:210", after := #[{ on := 16, ground := Ground.data }, { on := 22, ground := Ground.data }, { on := 14, ground := Ground.guard }], guard := some (14, false) }) (v := ?_) rfl (by kernel_rfl) (by kernel_rfl) (by kernel_rfl) (fun _ _ _ h => h) (Or.inl ⟨by rfl, ?_⟩) (by assumption) ?_
                rotate_left
                · (intro w hSw; (try dsimp only at hSw); go_simp; try with_reducible rfl)
                try simp only [Act.put, List.setIfInBounds_toArray, List.set_cons_zero, List.set_cons_succ]
                refine wpAnyH_take (i := 24) (oi := { dst := some 122, op := Op.pick (Operand.tmp 112) (Operand.const (Value.bool true)) (Operand.tmp 121), type := 4, pos := "laws.go:210", after := #[{ on := 14, ground := Ground.data }, { on := 23, ground := Ground.data }], guard := none }) (v := ?_) rfl (by kernel_rfl) (by kernel_rfl) (by kernel_rfl) (fun _ _ _ h => h) (Or.inl ⟨by rfl, ?_⟩) (by assumption) ?_
                rotate_left
                · (intro w hSw; (try dsimp only at hSw); go_simp; try with_reducible rfl)
                try simp only [Act.put, List.setIfInBounds_toArray, List.set_cons_zero, List.set_cons_succ]
                refine wpAnyH_take (i := 25) (oi := { dst := some 123, op := Op.move (Operand.tmp 122), type := 4, pos := "laws.go:210", after := #[{ on := 24, ground := Ground.data }, { on := 16, ground := Ground.chain }], guard := none }) (v := ?_) rfl (by kernel_rfl) (by kernel_rfl) (by kernel_rfl) (fun _ _ _ h => h) (Or.inl ⟨by rfl, ?_⟩) (by assumption) ?_
                rotate_left
                · (intro w hSw; (try dsimp only at hSw); go_simp; try with_reducible rfl)
                try simp only [Act.put, List.setIfInBounds_toArray, List.set_cons_zero, List.set_cons_succ]
                refine wpAnyH_take (i := 26) (oi := { dst := some 124, op := Op.fieldAddr 43 (Operand.tmp 5) 1, type := 0, pos := "laws.go:210", after := #[{ on := 25, ground := Ground.guard }], guard := some (25, false) }) (v := ?_) rfl (by kernel_rfl) (by kernel_rfl) (by kernel_rfl) (fun _ _ _ h => h) (Or.inl ⟨by rfl, ?_⟩) (by assumption) ?_
                rotate_left
                · (intro w hSw; (try dsimp only at hSw); go_simp; try with_reducible rfl)
                try simp only [Act.put, List.setIfInBounds_toArray, List.set_cons_zero, List.set_cons_succ]
                refine wpAnyH_take (i := 27) (oi := { dst := some 125, op := Op.load 24 (Operand.tmp 124), type := 24, pos := "laws.go:210", after := #[{ on := 26, ground := Ground.data }, { on := 25, ground := Ground.guard }], guard := some (25, false) }) (v := ?_) rfl (by kernel_rfl) (by kernel_rfl) (by kernel_rfl) (fun _ _ _ h => h) (Or.inl ⟨by rfl, ?_⟩) (by assumption) ?_
                rotate_left
                · (intro w hSw; (try dsimp only at hSw); go_simp; try with_reducible rfl)
                try simp only [Act.put, List.setIfInBounds_toArray, List.set_cons_zero, List.set_cons_succ]
                refine wpAnyH_take (i := 28) (oi := { dst := some 126, op := Op.move (Operand.tmp 8), type := 3, pos := "laws.go:210", after := #[{ on := 25, ground := Ground.guard }], guard := some (25, false) }) (v := ?_) rfl (by kernel_rfl) (by kernel_rfl) (by kernel_rfl) (fun _ _ _ h => h) (Or.inl ⟨by rfl, ?_⟩) (by assumption) ?_
                rotate_left
                · (intro w hSw; (try dsimp only at hSw); go_simp; try with_reducible rfl)
                try simp only [Act.put, List.setIfInBounds_toArray, List.set_cons_zero, List.set_cons_succ]
                refine wpAnyH_take (i := 29) (oi := { dst := some 127, op := Op.indexAddr 24 (Operand.tmp 125) (Operand.tmp 126), type := 0, pos := "laws.go:210", after := #[{ on := 27, ground := Ground.data }, { on := 28, ground := Ground.data }, { on := 25, ground := Ground.guard }], guard := some (25, false) }) (v := ?_) rfl (by kernel_rfl) (by kernel_rfl) (by kernel_rfl) (fun _ _ _ h => h) (Or.inl ⟨by rfl, ?_⟩) (by assumption) ?_
                rotate_left
                · (intro w hSw; (try dsimp only at hSw); go_simp; try with_reducible rfl)
                try simp only [Act.put, List.setIfInBounds_toArray, List.set_cons_zero, List.set_cons_succ]
                refine wpAnyH_take (i := 30) (oi := { dst := some 128, op := Op.load 2 (Operand.tmp 127), type := 2, pos := "laws.go:210", after := #[{ on := 29, ground := Ground.data }, { on := 25, ground := Ground.guard }], guard := some (25, false) }) (v := ?_) rfl (by kernel_rfl) (by kernel_rfl) (by kernel_rfl) (fun _ _ _ h => h) (Or.inl ⟨by rfl, ?_⟩) (by assumption) ?_
                rotate_left
                · (intro w hSw; (try dsimp only at hSw); go_simp; try with_reducible rfl)
                try simp only [Act.put, List.setIfInBounds_toArray, List.set_cons_zero, List.set_cons_succ]
                refine wpAnyH_take (i := 31) (oi := { dst := some 129, op := Op.binOp BinOp.gtr 2 (Operand.tmp 128) (Operand.const (Value.int IntKind.i64 125)) 2, type := 4, pos := "laws.go:210", after := #[{ on := 30, ground := Ground.data }, { on := 25, ground := Ground.guard }], guard := some (25, false) }) (v := ?_) rfl (by kernel_rfl) (by kernel_rfl) (by kernel_rfl) (fun _ _ _ h => h) (Or.inl ⟨by rfl, ?_⟩) (by assumption) ?_
                rotate_left
                · (intro w hSw; (try dsimp only at hSw); go_simp; try with_reducible rfl)
                try simp only [Act.put, List.setIfInBounds_toArray, List.set_cons_zero, List.set_cons_succ]
                refine wpAnyH_take (i := 32) (oi := { dst := some 130, op := Op.pick (Operand.tmp 123) (Operand.const (Value.bool true)) (Operand.tmp 129), type := 4, pos := "laws.go:210", after := #[{ on := 25, ground := Ground.data }, { on := 31, ground := Ground.data }], guard := none }) (v := ?_) rfl (by kernel_rfl) (by kernel_rfl) (by kernel_rfl) (fun _ _ _ h => h) (Or.inl ⟨by rfl, ?_⟩) (by assumption) ?_
                rotate_left
                · (intro w hSw; (try dsimp only at hSw); go_simp; try with_reducible rfl)
                try simp only [Act.put, List.setIfInBounds_toArray, List.set_cons_zero, List.set_cons_succ]
                refine wpAnyH_take (i := 33) (oi := { dst := some 131, op := Op.move (Operand.tmp 130), type := 4, pos := "laws.go:210", after := #[{ on := 32, ground := Ground.data }, { on := 25, ground := Ground.chain }], guard := none }) (v := ?_) rfl (by kernel_rfl) (by kernel_rfl) (by kernel_rfl) (fun _ _ _ h => h) (Or.inl ⟨by rfl, ?_⟩) (by assumption) ?_
                rotate_left
                · (intro w hSw; (try dsimp only at hSw); go_simp; try with_reducible rfl)
                try simp only [Act.put, List.setIfInBounds_toArray, List.set_cons_zero, List.set_cons_succ]
                refine wpAnyH_take (i := 34) (oi := { dst := some 132, op := Op.move (Operand.tmp 9), type := 2, pos := "laws.go:210", after := #[{ on := 33, ground := Ground.guard }], guard := some (33, false) }) (v := ?_) rfl (by kernel_rfl) (by kernel_rfl) (by kernel_rfl) (fun _ _ _ h => h) (Or.inl ⟨by rfl, ?_⟩) (by assumption) ?_
                rotate_left
                · (intro w hSw; (try dsimp only at hSw); go_simp; try with_reducible rfl)
                try simp only [Act.put, List.setIfInBounds_toArray, List.set_cons_zero, List.set_cons_succ]
                refine wpAnyH_ready (rs := [35]) (by kernel_rfl) (by simp) ?_
                refine AllReadyH.cons (o := { dst := some 133, op := Op.call { callee := Callee.value (Operand.func 35), args := #[Operand.tmp 132], argTypes := #[2] }, type := 4, pos := "laws.go:210", after := #[{ on := 34, ground := Ground.data }, { on := 33, ground := Ground.chain }, { on := 33, ground := Ground.guard }], guard := some (33, false) }) rfl (fun K hK => ?_) AllReadyH.nil
                go_simp
                go_at_call 35
                refine (isGone_any qz _).mono ?_
                rintro e wB ⟨rfl, bB⟩
                have qbB : Below wA.heap.size wA wB := ⟨bB.os, bB.tape, bB.output, bB.size, bB.block⟩
                replace kEq := kEq.below qbB kEq.lt
                replace lc := (qbB.cell (p := ⟨bL, offL + k, none⟩) hlL).trans lc
                replace hlL := Nat.lt_of_lt_of_le hlL qbB.size
                replace BZ := Lib.hid (below_on BZ.out qbB (Nat.le_refl _))
                clear bB qbB
                rw [RB.out]
                try dsimp only
                refine hK.out _ _ ⟨kEq.cell 1 rfl, kEq.cell 2 rfl, lc⟩ (fun hHeld => ?_)
                clear hK K
                try simp only [Act.put, List.setIfInBounds_toArray, List.set_cons_zero, List.set_cons_succ]
                refine wpAnyH_take (i := 36) (oi := { dst := some 134, op := Op.unOp UnOp.not 4 (Operand.tmp 133), type := 4, pos := "laws.go:210", after := #[{ on := 35, ground := Ground.data }, { on := 33, ground := Ground.guard }], guard := some (33, false) }) (v := ?_) rfl (by kernel_rfl) (by kernel_rfl) (by kernel_rfl) (fun _ _ _ h => h) (Or.inl ⟨by rfl, ?_⟩) (by assumption) ?_
                rotate_left
                · (intro w hSw; (try dsimp only at hSw); go_simp; try with_reducible rfl)
                try simp only [Act.put, List.setIfInBounds_toArray, List.set_cons_zero, List.set_cons_succ]
                refine wpAnyH_take (i := 37) (oi := { dst := some 135, op := Op.move (Operand.tmp 134), type := 4, pos := "laws.go:210", after := #[{ on := 36, ground := Ground.data }, { on := 35, ground := Ground.chain }, { on := 33, ground := Ground.guard }], guard := some (33, false) }) (v := ?_) rfl (by kernel_rfl) (by kernel_rfl) (by kernel_rfl) (fun _ _ _ h => h) (Or.inl ⟨by rfl, ?_⟩) (by assumption) ?_
                rotate_left
                · (intro w hSw; (try dsimp only at hSw); go_simp; try with_reducible rfl)
                try simp only [Act.put, List.setIfInBounds_toArray, List.set_cons_zero, List.set_cons_succ]
                refine wpAnyH_take (i := 38) (oi := { dst := some 136, op := Op.fieldAddr 43 (Operand.tmp 5) 1, type := 0, pos := "laws.go:210", after := #[{ on := 37, ground := Ground.guard }], guard := some (37, true) }) (v := ?_) rfl (by kernel_rfl) (by kernel_rfl) (by kernel_rfl) (fun _ _ _ h => h) (Or.inl ⟨by rfl, ?_⟩) (by assumption) ?_
                rotate_left
                · (intro w hSw; (try dsimp only at hSw); go_simp; try with_reducible rfl)
                try simp only [Act.put, List.setIfInBounds_toArray, List.set_cons_zero, List.set_cons_succ]
                refine wpAnyH_take (i := 39) (oi := { dst := some 137, op := Op.load 24 (Operand.tmp 136), type := 24, pos := "laws.go:210", after := #[{ on := 38, ground := Ground.data }, { on := 37, ground := Ground.guard }], guard := some (37, true) }) (v := ?_) rfl (by kernel_rfl) (by kernel_rfl) (by kernel_rfl) (fun _ _ _ h => h) (Or.inl ⟨by rfl, ?_⟩) (by assumption) ?_
                rotate_left
                · (intro w hSw; (try dsimp only at hSw); go_simp; try with_reducible rfl)
                try simp only [Act.put, List.setIfInBounds_toArray, List.set_cons_zero, List.set_cons_succ]
                refine wpAnyH_take (i := 40) (oi := { dst := some 138, op := Op.move (Operand.tmp 8), type := 3, pos := "laws.go:210", after := #[{ on := 37, ground := Ground.guard }], guard := some (37, true) }) (v := ?_) rfl (by kernel_rfl) (by kernel_rfl) (by kernel_rfl) (fun _ _ _ h => h) (Or.inl ⟨by rfl, ?_⟩) (by assumption) ?_
                rotate_left
                · (intro w hSw; (try dsimp only at hSw); go_simp; try with_reducible rfl)
                try simp only [Act.put, List.setIfInBounds_toArray, List.set_cons_zero, List.set_cons_succ]
                refine wpAnyH_take (i := 41) (oi := { dst := some 139, op := Op.indexAddr 24 (Operand.tmp 137) (Operand.tmp 138), type := 0, pos := "laws.go:210", after := #[{ on := 39, ground := Ground.data }, { on := 40, ground := Ground.data }, { on := 37, ground := Ground.guard }], guard := some (37, true) }) (v := ?_) rfl (by kernel_rfl) (by kernel_rfl) (by kernel_rfl) (fun _ _ _ h => h) (Or.inl ⟨by rfl, ?_⟩) (by assumption) ?_
                rotate_left
                · (intro w hSw; (try dsimp only at hSw); go_simp; try with_reducible rfl)
                try simp only [Act.put, List.setIfInBounds_toArray, List.set_cons_zero, List.set_cons_succ]
                refine wpAnyH_take (i := 42) (oi := { dst := some 140, op := Op.load 2 (Operand.tmp 139), type := 2, pos := "laws.go:210", after := #[{ on := 41, ground := Ground.data }, { on := 37, ground := Ground.guard }], guard := some (37, true) }) (v := ?_) rfl (by kernel_rfl) (by kernel_rfl) (by kernel_rfl) (fun _ _ _ h => h) (Or.inl ⟨by rfl, ?_⟩) (by assumption) ?_
                rotate_left
                · (intro w hSw; (try dsimp only at hSw); go_simp; try with_reducible rfl)
                try simp only [Act.put, List.setIfInBounds_toArray, List.set_cons_zero, List.set_cons_succ]
                refine wpAnyH_take (i := 43) (oi := { dst := some 141, op := Op.move (Operand.tmp 4), type := 2, pos := "laws.go:210", after := #[{ on := 37, ground := Ground.guard }], guard := some (37, true) }) (v := ?_) rfl (by kernel_rfl) (by kernel_rfl) (by kernel_rfl) (fun _ _ _ h => h) (Or.inl ⟨by rfl, ?_⟩) (by assumption) ?_
                rotate_left
                · (intro w hSw; (try dsimp only at hSw); go_simp; try with_reducible rfl)
                try simp only [Act.put, List.setIfInBounds_toArray, List.set_cons_zero, List.set_cons_succ]
                refine wpAnyH_take (i := 44) (oi := { dst := some 142, op := Op.binOp BinOp.lss 2 (Operand.tmp 140) (Operand.tmp 141) 2, type := 4, pos := "laws.go:210", after := #[{ on := 42, ground := Ground.data }, { on := 43, ground := Ground.data }, { on := 37, ground := Ground.guard }], guard := some (37, true) }) (v := ?_) rfl (by kernel_rfl) (by kernel_rfl) (by kernel_rfl) (fun _ _ _ h => h) (Or.inl ⟨by rfl, ?_⟩) (by assumption) ?_
                rotate_left
                · (intro w hSw; (try dsimp only at hSw); go_simp; try with_reducible rfl)
                try simp only [Act.put, List.setIfInBounds_toArray, List.set_cons_zero, List.set_cons_succ]
                refine wpAnyH_take (i := 45) (oi := { dst := some 143, op := Op.pick (Operand.tmp 135) (Operand.tmp 142) (Operand.const (Value.bool false)), type := 4, pos := "laws.go:210", after := #[{ on := 37, ground := Ground.data }, { on := 44, ground := Ground.data }, { on := 33, ground := Ground.guard }], guard := some (33, false) }) (v := ?_) rfl (by kernel_rfl) (by kernel_rfl) (by kernel_rfl) (fun _ _ _ h => h) (Or.inl ⟨by rfl, ?_⟩) (by assumption) ?_
                rotate_left
                · (intro w hSw; (try dsimp only at hSw); go_simp; try with_reducible rfl)
                try simp only [Act.put, List.setIfInBounds_toArray, List.set_cons_zero, List.set_cons_succ]
                refine wpAnyH_take (i := 46) (oi := { dst := some 144, op := Op.pick (Operand.tmp 131) (Operand.const (Value.bool true)) (Operand.tmp 143), type := 4, pos := "laws.go:210", after := #[{ on := 33, ground := Ground.data }, { on := 45, ground := Ground.data }], guard := none }) (v := ?_) rfl (by kernel_rfl) (by kernel_rfl) (by kernel_rfl) (fun _ _ _ h => h) (Or.inl ⟨by rfl, ?_⟩) (by assumption) ?_
                rotate_left
                · (intro w hSw; (try dsimp only at hSw); go_simp; try with_reducible rfl)
                try simp only [Act.put, List.setIfInBounds_toArray, List.set_cons_zero, List.set_cons_succ]
                refine wpAnyH_done (by kernel_rfl) ?_ _
                go_wp2
                go_roundw
                case rel => exact ⟨k + 1, _, by omega, by go_num, rfl, XN2, BZ⟩
                case measure => first | omega | (simp [intOf]; omega)
        · have hke : k = ts.length := by omega
          subst hke
          cases x with
          | true =>
            go_wp2
            go_ret
            exact ⟨rfl, HBW.trans (hbr.out.mono HBW.size)⟩
          | false =>
            have NO := Lib.hid (anyOwn_none (classesN ts) (by rw [classesN_len]; exact hx.out.symm))
            have bx := hbr.out
            clear hbr hx
            replace R := R.on bx
            replace sT := (sT.below bx (Nat.le_refl _)).more bx.size
            replace sL := (sL.below bx (Nat.le_refl _)).more bx.size
            replace sC := (sC.below bx (Nat.le_refl _)).more bx.size
            replace kE := kE.below bx kE.lt
            replace HBW := below_on HBW bx (Nat.le_refl _)
            clear bx
            go_wp2_with fail
            refine (lwAt_two A c zs ((ts.length : Int) + 1) wr R HB.out zl (by omega)).mono ?_
            rintro e wC ⟨⟨cu, rfl, x0, x1⟩, bC⟩
            replace R := R.on bC
            replace sT := (sT.below bC (Nat.le_refl _)).more bC.size
            replace sL := (sL.below bC (Nat.le_refl _)).more bC.size
            replace sC := (sC.below bC (Nat.le_refl _)).more bC.size
            replace kE := kE.below bC kE.lt
            replace HBW := below_on HBW bC (Nat.le_refl _)
            obtain ⟨cut, rfl⟩ : ∃ cut : Nat, cu = (cut : Int) := ⟨cu.toNat, by omega⟩
            have kd : cut ≤ ts.length := by omega
            have cT1 := cT.1
            have cL1 := cL.1
            have cC1 := cC.1
            have NL1 := NL.out
            have NC1 := NC.out
            have PS := Lib.hid (part_same HZ.out NO.out cut kd)
            have PF := Lib.hid (paraF_take HZ.out cut)
            have sP := sT.hi4 cut kd
            have lp : (ts.take cut).length = cut := by rw [List.length_take]; omega
            have WP := Lib.hid (fun n (h : n ∈ ts.take cut) => WT.out n (List.mem_of_mem_take h))
            have CP := Lib.hid (show CapV (.slice A1 cut c1) from fun A n c e => by injection e with _ e2 e3; omega)
            clear x0 x1 bC
            go_wp2_with fail
            refine (explicitOf_val _ (ts.take cut) b wC wC.heap.size sP (Nat.le_refl _) (by omega) WP.out CP.out WB.out).mono ?_
            rintro e wD ⟨⟨u3, u4, rfl, o3, o4, _⟩, bD⟩
            rw [PF.out]
            obtain ⟨Lc, hLc⟩ : ∃ x, Hid (x = (explL ts b).take cut) := ⟨_, Lib.hid rfl⟩
            obtain ⟨Cc, hCc⟩ : ∃ x, Hid (x = (explC ts b).take cut) := ⟨_, Lib.hid rfl⟩
            rw [PS.out.1, ← hLc.out] at o3
            rw [PS.out.2, ← hCc.out] at o4
            obtain ⟨A4, c4, rfl⟩ := o3.form
            obtain ⟨A5, c5, rfl⟩ := o4.form
            have sL4 := o3.sees
            have sC4 := o4.sees
            clear o3 o4
            replace R := R.on bD
            replace sT := (sT.below bD (Nat.le_refl _)).more bD.size
            replace sL := (sL.below bD (Nat.le_refl _)).more bD.size
            replace sC := (sC.below bD (Nat.le_refl _)).more bD.size
            replace kE := kE.below bD kE.lt
            replace sP := (sP.below bD (Nat.le_refl _)).more bD.size
            replace HBW := below_on HBW bD (Nat.le_refl _)
            clear bD
            have bE := (Below.refl wD.heap.size wD).alloc (Nat.le_refl _) (.cells #[.int .i64 0, .slice A4 Lc.length c4, .slice A5 Cc.length c5] 43)
            have kP := Blk.new wD 43 #[.int .i64 0, .slice A4 Lc.length c4, .slice A5 Cc.length c5]
            replace R := R.on bE
            replace sT := (sT.below bE (Nat.le_refl _)).more bE.size
            replace sL := (sL.below bE (Nat.le_refl _)).more bE.size
            replace sC := (sC.below bE (Nat.le_refl _)).more bE.size
            replace kE := kE.below bE kE.lt
            replace sP := (sP.below bE (Nat.le_refl _)).more bE.size
            replace sL4 := (sL4.below bE (Nat.le_refl _)).more bE.size
            replace sC4 := (sC4.below bE (Nat.le_refl _)).more bE.size
            replace HBW := below_on HBW bE (Nat.le_refl _)
            clear bE
            go_wp2_with fail
            generalize hgE : wD.alloc (.cells #[.int .i64 0, .slice A4 Lc.length c4, .slice A5 Cc.length c5] 43) = wE at *
            clear hgE
            have bz3 : Below wE.heap.size wE wE.drew := ⟨rfl, rfl, rfl, Nat.le_refl _, fun _ _ => rfl⟩
            replace R := R.on bz3
            replace sT := (sT.below bz3 (Nat.le_refl _)).more bz3.size
            replace sL := (sL.below bz3 (Nat.le_refl _)).more bz3.size
            replace sC := (sC.below bz3 (Nat.le_refl _)).more bz3.size
            replace kE := kE.below bz3 kE.lt
            replace sP := (sP.below bz3 (Nat.le_refl _)).more bz3.size
            replace sL4 := (sL4.below bz3 (Nat.le_refl _)).more bz3.size
            replace sC4 := (sC4.below bz3 (Nat.le_refl _)).more bz3.size
            replace kP := kP.below bz3 kP.lt
            replace HBW := below_on HBW bz3 (Nat.le_refl _)
            clear bz3
            have tL := sL.hi4 cut (by omega)
            have tC := sC.hi4 cut (by omega)
            rw [← hLc.out] at tL
            rw [← hCc.out] at tC
            have lt1 : Lc.length ≤ 600 := by rw [hLc.out, List.length_take]; omega
            have lt2 : Cc.length ≤ 600 := by rw [hCc.out, List.length_take]; omega
            have kc2 : cut ≤ c2 := by omega
            have kc3 : cut ≤ c3 := by omega
            go_region_held3 (fun w' => w'.cell? ⟨wD.heap.size, 0, none⟩ = some (.int .i64 0) ∧ w'.cell? ⟨wD.heap.size, 1, none⟩ = some (.slice A4 Lc.length c4) ∧ w'.cell? ⟨wD.heap.size, 2, none⟩ = some (.slice A5 Cc.length c5) ∧ w'.cell? ⟨w2.heap.size, 1, none⟩ = some (.slice A2 (explL ts b).length c2) ∧ w'.cell? ⟨w2.heap.size, 2, none⟩ = some (.slice A3 (explC ts b).length c3)) (exact ⟨kP.cell 0 rfl, kP.cell 1 rfl, kP.cell 2 rfl, kE.cell 1 rfl, kE.cell 2 rfl⟩) (first
              | (go_at_call 20; refine (lwNums_see4 _ _ _ _ _ _ sL4 tL (by omega)).mono ?_; rintro e w201 ⟨rfl, n201, hn201⟩; have b201 := below_drawn hn201; clear hn201; have qb201 : Below wE.drew.heap.size wE.drew w201 := ⟨b201.os, b201.tape, b201.output, b201.size, b201.block⟩; replace R := R.on qb201; replace sT := (sT.below qb201 (Nat.le_refl _)).more qb201.size; replace sL := (sL.below qb201 (Nat.le_refl _)).more qb201.size; replace sC := (sC.below qb201 (Nat.le_refl _)).more qb201.size; replace kE := kE.below qb201 kE.lt; replace sP := (sP.below qb201 (Nat.le_refl _)).more qb201.size; replace sL4 := (sL4.below qb201 (Nat.le_refl _)).more qb201.size; replace sC4 := (sC4.below qb201 (Nat.le_refl _)).more qb201.size; replace kP := kP.below qb201 kP.lt; replace tL := (tL.below qb201 (Nat.le_refl _)).more qb201.size; replace tC := (tC.below qb201 (Nat.le_refl _)).more qb201.size; replace HBW := below_on HBW qb201 (Nat.le_refl _); clear b201 qb201; clear tL)
              | (go_at_call 20; refine (lwNums_see4 _ _ _ _ _ _ sC4 tC (by omega)).mono ?_; rintro e w202 ⟨rfl, n202, hn202⟩; have b202 := below_drawn hn202; clear hn202; have qb202 : Below w201.heap.size w201 w202 := ⟨b202.os, b202.tape, b202.output, b202.size, b202.block⟩; replace R := R.on qb202; replace sT := (sT.below qb202 (Nat.le_refl _)).more qb202.size; replace sL := (sL.below qb202 (Nat.le_refl _)).more qb202.size; replace sC := (sC.below qb202 (Nat.le_refl _)).more qb202.size; replace kE := kE.below qb202 kE.lt; replace sP := (sP.below qb202 (Nat.le_refl _)).more qb202.size; replace sL4 := (sL4.below qb202 (Nat.le_refl _)).more qb202.size; replace sC4 := (sC4.below qb202 (Nat.le_refl _)).more qb202.size; replace kP := kP.below qb202 kP.lt; replace tC := (tC.below qb202 (Nat.le_refl _)).more qb202.size; replace HBW := below_on HBW qb202 (Nat.le_refl _); clear b202 qb202; clear tC))
            all_goals
              go_wp2
              go_ret
              exact ⟨rfl, HBW⟩
    · have g0 : (paraF ts b != 0) = true := by simpa using hz
      have z0 : (explL ts b).length = 0 := by unfold explL; rw [if_neg hz]; rfl
      rw [z0] at ce1
      clear hz
      go_wp2
      go_ret
      exact ⟨rfl, HBW⟩
end Go.Proofs.Ytmkpbfghnkmcgaa.fnDeeps
