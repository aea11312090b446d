/- FnWeaks: the walk (laid by wip/bin/genweak.py). -/
import Derived.Test.YtmcmfklkljehiaaI13
import Derived.Test.YtmcmfklkljehiaaI14
import Derived.Test.YtmcmfklkljehiaaW9
import Derived.Test.YtmcmfklkljehiaaW10
import Derived.Test.YtmcmfklkljehiaaH3
import Derived.Deep.RegionHeld3
namespace Go.Proofs.Ytmcmfklkljehiaa
open Go.RowKit
theorem wf_small6 {n : Int} (h : -1000000 ≤ n) (h2 : n ≤ 1000000) : (Lit.int .i64 n).wf = true := by
  have h1 : IntKind.i64.min = -9223372036854775808 := rfl
  have h2 : IntKind.i64.max = 9223372036854775807 := rfl
  simp only [Lit.wf, Bool.and_eq_true, decide_eq_true_eq, h1, h2]
  omega
theorem wf_cls {l : List Int} (h : ∀ x ∈ l, In x) : ∀ n ∈ l, (Lit.int .i64 n).wf = true := fun n hn => by have := h n hn; unfold In at this; exact wf_small6 (by omega) (by omega)
theorem lwBig_any6 (A : Option Addr) (n c : Nat) (w : World) :
    Calls Try.prog 9 #[.slice A n c] w fun e w' => e = .returned (.bool (decide (1048576 < n))) ∧ w = w' := by
  go_enter Try.func9, Try.ntmps9
  go_wp2
  go_ret
  exact ⟨rbool (by simp; omega), rfl⟩
theorem lwNums_see6 (A A' : Option Addr) (n n' c c' : Nat) {xs : List Int} {w w0 w1 : World} {B B' : Nat} (h1 : Sees w0 B .i64 (.slice A n c) xs) (h2 : Sees w1 B' .i64 (.slice A' n' c') xs) (l1 : xs.length < 1000000000) (e0 : w0.heap = w.heap := by rfl) (e1 : w1.heap = w.heap := by rfl) :
    Calls Try.prog 16 #[.slice A n c, .slice A' n' c'] w fun e w' => e = .returned (.bool true) ∧ ∃ n, w' = w.drewN n :=
  lwNums_same _ _ xs w B B' (h1.keep fun k _ => by rw [e0]) (h2.keep fun k _ => by rw [e1]) l1
end Go.Proofs.Ytmcmfklkljehiaa
namespace Go.Proofs.Ytmcmfklkljehiaa.fnWeaks
open Go.RowKit

attribute [local go_sem] Oper.semAt_some
theorem field_c0 (y : Value) (n : Int) (w : World) : (Instr.field 28 (.agg #[.int .i64 n, y]) 0).run Try.prog w = .ok (.int .i64 n) w := by simp [Instr.field, go_sem, asAgg]
theorem field_c1 (x : Value) (A : Option Addr) (n c : Nat) (w : World) : (Instr.field 28 (.agg #[x, .slice A n c]) 1).run Try.prog w = .ok (.slice A n c) w := by simp [Instr.field, go_sem, asAgg]
attribute [local go_sem] field_c0 field_c1

set_option maxRecDepth 100000 in
set_option maxHeartbeats 8000000 in
theorem walk (A : Option Addr) (zs : List Int) (c : Nat) (w : World) (r : Rd w w.heap.size A (nums .u8 zs)) (hw : ∀ n ∈ zs, (Lit.int .u8 n).wf = true) :
    Calls Try.prog 3 #[.slice A zs.length c] w fun e w' => e = .returned (.bool true) ∧ Below w.heap.size w w' := by
  by_cases hl : 1048576 < zs.length
  · have d0 : decide (1048576 < zs.length) = true := by simp [hl]
    go_enter Try.func3, Try.ntmps3
    go_wp2_with fail
    refine (lwBig_any6 A zs.length c w).mono ?_
    rintro e w1 ⟨rfl, rfl⟩
    rw [d0]
    go_wp2
    go_ret
    exact ⟨rfl, Below.refl _ _⟩
  · have d0 : decide (1048576 < zs.length) = false := by simp [hl]
    have HB := Lib.hid (bytes_of hw)
    have zl : zs.length < 2000000 := by omega
    have R := r
    clear hl r hw
    go_enter Try.func3, Try.ntmps3
    go_wp2_with fail
    refine (lwBig_any6 A zs.length c w).mono ?_
    rintro e w1 ⟨rfl, rfl⟩
    rw [d0]
    have HBW := Below.refl w.heap.size w
    go_wp2_with fail
    refine (drawWeakOf_any A c zs w R HB.out zl).mono ?_
    rintro e w1 ⟨⟨v, b, rfl, ts, o, lt, dt, b0, b2⟩, b1⟩
    replace R := R.on b1
    replace HBW := below_on HBW b1 (Nat.le_refl _)
    clear b1
    obtain ⟨A1, c1, rfl⟩ := o.form
    have sT := o.sees
    clear o
    have WT := Lib.hid dt.wf
    have WB := Lib.hid (wf_small6 (by omega) (by omega) : (Lit.int .i64 b).wf = true)
    clear dt
    clear R
    go_wp2_with fail
    refine (weakOf_val _ ts b w1 w1.heap.size sT (Nat.le_refl _) (by omega) WT.out WB.out).mono ?_
    rintro e w2 ⟨⟨uW, rfl, oW⟩, b2⟩
    replace sT := (sT.below b2 (Nat.le_refl _)).more b2.size
    replace HBW := below_on HBW b2 (Nat.le_refl _)
    clear b2
    obtain ⟨AW, cW, rfl⟩ := oW.form
    have sW := oW.sees
    clear oW
    have lW := weakV_len ts b
    have b3 := (Below.refl w2.heap.size w2).alloc (Nat.le_refl _) (.cells #[.int .i64 (classF ts b), .slice AW (weakV ts b).length cW] 28)
    have kW := Blk.new w2 28 #[.int .i64 (classF ts b), .slice AW (weakV ts b).length cW]
    replace sT := (sT.below b3 (Nat.le_refl _)).more b3.size
    replace sW := (sW.below b3 (Nat.le_refl _)).more b3.size
    replace HBW := below_on HBW b3 (Nat.le_refl _)
    clear b3
    go_wp2_with fail
    generalize hg3 : w2.alloc (.cells #[.int .i64 (classF ts b), .slice AW (weakV ts b).length cW] 28) = w3 at *
    clear hg3
    refine (marksOf_val _ ts b w3 w3.heap.size sT (Nat.le_refl _) (by omega) WT.out WB.out).mono ?_
    rintro e w4 ⟨⟨uM, rfl, oM⟩, b4⟩
    replace sT := (sT.below b4 (Nat.le_refl _)).more b4.size
    replace sW := (sW.below b4 (Nat.le_refl _)).more b4.size
    replace kW := kW.below b4 kW.lt
    replace HBW := below_on HBW b4 (Nat.le_refl _)
    clear b4
    obtain ⟨AM, cM, rfl⟩ := oM.form
    have sM := oM.sees
    clear oM
    have lM := marksV_len ts b
    have b5 := (Below.refl w4.heap.size w4).alloc (Nat.le_refl _) (.cells #[.int .i64 (classF ts b), .slice AM (marksV ts b).length cM] 28)
    have kM := Blk.new w4 28 #[.int .i64 (classF ts b), .slice AM (marksV ts b).length cM]
    replace sT := (sT.below b5 (Nat.le_refl _)).more b5.size
    replace sW := (sW.below b5 (Nat.le_refl _)).more b5.size
    replace kW := kW.below b5 kW.lt
    replace sM := (sM.below b5 (Nat.le_refl _)).more b5.size
    replace HBW := below_on HBW b5 (Nat.le_refl _)
    clear b5
    go_wp2_with fail
    generalize hg5 : w4.alloc (.cells #[.int .i64 (classF ts b), .slice AM (marksV ts b).length cM] 28) = w5 at *
    clear hg5
    refine (numbersOf_val _ ts b w5 w5.heap.size sT (Nat.le_refl _) (by omega) WT.out WB.out).mono ?_
    rintro e w6 ⟨⟨uN, rfl, oN⟩, b6⟩
    replace sT := (sT.below b6 (Nat.le_refl _)).more b6.size
    replace sW := (sW.below b6 (Nat.le_refl _)).more b6.size
    replace kW := kW.below b6 kW.lt
    replace sM := (sM.below b6 (Nat.le_refl _)).more b6.size
    replace kM := kM.below b6 kM.lt
    replace HBW := below_on HBW b6 (Nat.le_refl _)
    clear b6
    obtain ⟨AN, cN, rfl⟩ := oN.form
    have sN := oN.sees
    clear oN
    have lN := numsV_len ts b
    have b7 := (Below.refl w6.heap.size w6).alloc (Nat.le_refl _) (.cells #[.int .i64 (classF ts b), .slice AN (numsV ts b).length cN] 28)
    have kN := Blk.new w6 28 #[.int .i64 (classF ts b), .slice AN (numsV ts b).length cN]
    replace sT := (sT.below b7 (Nat.le_refl _)).more b7.size
    replace sW := (sW.below b7 (Nat.le_refl _)).more b7.size
    replace kW := kW.below b7 kW.lt
    replace sM := (sM.below b7 (Nat.le_refl _)).more b7.size
    replace kM := kM.below b7 kM.lt
    replace sN := (sN.below b7 (Nat.le_refl _)).more b7.size
    replace HBW := below_on HBW b7 (Nat.le_refl _)
    clear b7
    go_wp2_with fail
    generalize hg7 : w6.alloc (.cells #[.int .i64 (classF ts b), .slice AN (numsV ts b).length cN] 28) = w7 at *
    clear hg7
    refine (signsOf_val _ ts b w7 w7.heap.size sT (Nat.le_refl _) (by omega) WT.out WB.out).mono ?_
    rintro e w8 ⟨⟨uG, rfl, oG⟩, b8⟩
    replace sT := (sT.below b8 (Nat.le_refl _)).more b8.size
    replace sW := (sW.below b8 (Nat.le_refl _)).more b8.size
    replace kW := kW.below b8 kW.lt
    replace sM := (sM.below b8 (Nat.le_refl _)).more b8.size
    replace kM := kM.below b8 kM.lt
    replace sN := (sN.below b8 (Nat.le_refl _)).more b8.size
    replace kN := kN.below b8 kN.lt
    replace HBW := below_on HBW b8 (Nat.le_refl _)
    clear b8
    obtain ⟨AG, cG, rfl⟩ := oG.form
    have sG := oG.sees
    clear oG
    have lG := signsV_len ts b
    have b9 := (Below.refl w8.heap.size w8).alloc (Nat.le_refl _) (.cells #[.int .i64 (classF ts b), .slice AG (signsV ts b).length cG] 28)
    have kG := Blk.new w8 28 #[.int .i64 (classF ts b), .slice AG (signsV ts b).length cG]
    replace sT := (sT.below b9 (Nat.le_refl _)).more b9.size
    replace sW := (sW.below b9 (Nat.le_refl _)).more b9.size
    replace kW := kW.below b9 kW.lt
    replace sM := (sM.below b9 (Nat.le_refl _)).more b9.size
    replace kM := kM.below b9 kM.lt
    replace sN := (sN.below b9 (Nat.le_refl _)).more b9.size
    replace kN := kN.below b9 kN.lt
    replace sG := (sG.below b9 (Nat.le_refl _)).more b9.size
    replace HBW := below_on HBW b9 (Nat.le_refl _)
    clear b9
    go_wp2_with fail
    generalize hg9 : w8.alloc (.cells #[.int .i64 (classF ts b), .slice AG (signsV ts b).length cG] 28) = w9 at *
    clear hg9
    go_wp2_with fail
    have bz : Below w9.heap.size w9 w9.drew := ⟨rfl, rfl, rfl, Nat.le_refl _, fun _ _ => rfl⟩
    replace sT := (sT.below bz (Nat.le_refl _)).more bz.size
    replace sW := (sW.below bz (Nat.le_refl _)).more bz.size
    replace kW := kW.below bz kW.lt
    replace sM := (sM.below bz (Nat.le_refl _)).more bz.size
    replace kM := kM.below bz kM.lt
    replace sN := (sN.below bz (Nat.le_refl _)).more bz.size
    replace kN := kN.below bz kN.lt
    replace sG := (sG.below bz (Nat.le_refl _)).more bz.size
    replace kG := kG.below bz kG.lt
    replace HBW := below_on HBW bz (Nat.le_refl _)
    clear bz
    go_region_held3 (fun w' => w'.cell? ⟨w2.heap.size, 0, none⟩ = some (.int .i64 (classF ts b)) ∧ w'.cell? ⟨w2.heap.size, 1, none⟩ = some (.slice AW (weakV ts b).length cW) ∧ w'.cell? ⟨w4.heap.size, 0, none⟩ = some (.int .i64 (classF ts b)) ∧ w'.cell? ⟨w4.heap.size, 1, none⟩ = some (.slice AM (marksV ts b).length cM) ∧ w'.cell? ⟨w6.heap.size, 0, none⟩ = some (.int .i64 (classF ts b)) ∧ w'.cell? ⟨w6.heap.size, 1, none⟩ = some (.slice AN (numsV ts b).length cN) ∧ w'.cell? ⟨w8.heap.size, 0, none⟩ = some (.int .i64 (classF ts b)) ∧ w'.cell? ⟨w8.heap.size, 1, none⟩ = some (.slice AG (signsV ts b).length cG)) (exact ⟨kW.cell 0 rfl, kW.cell 1 rfl, kM.cell 0 rfl, kM.cell 1 rfl, kN.cell 0 rfl, kN.cell 1 rfl, kG.cell 0 rfl, kG.cell 1 rfl⟩) (first
      | (go_at_call 15; refine (specWeakOf_val _ ts b _ _ sT (Nat.le_refl _) (by omega) WT.out WB.out).mono ?_; rintro e w101 ⟨⟨y1, rfl, z1⟩, b101⟩; have qb101 : Below w9.drew.heap.size w9.drew w101 := ⟨b101.os, b101.tape, b101.output, b101.size, b101.block⟩; replace sT := (sT.below qb101 (Nat.le_refl _)).more qb101.size; replace sW := (sW.below qb101 (Nat.le_refl _)).more qb101.size; replace kW := kW.below qb101 kW.lt; replace sM := (sM.below qb101 (Nat.le_refl _)).more qb101.size; replace kM := kM.below qb101 kM.lt; replace sN := (sN.below qb101 (Nat.le_refl _)).more qb101.size; replace kN := kN.below qb101 kN.lt; replace sG := (sG.below qb101 (Nat.le_refl _)).more qb101.size; replace kG := kG.below qb101 kG.lt; replace HBW := below_on HBW qb101 (Nat.le_refl _); clear b101 qb101; obtain ⟨B0, e0, rfl⟩ := z1.form; clear z1)
      | (go_at_call 15; refine (specWeakOf_val _ ts b _ _ sT (Nat.le_refl _) (by omega) WT.out WB.out).mono ?_; rintro e w102 ⟨⟨y1, rfl, z1⟩, b102⟩; have qb102 : Below w101.heap.size w101 w102 := ⟨b102.os, b102.tape, b102.output, b102.size, b102.block⟩; replace sT := (sT.below qb102 (Nat.le_refl _)).more qb102.size; replace sW := (sW.below qb102 (Nat.le_refl _)).more qb102.size; replace kW := kW.below qb102 kW.lt; replace sM := (sM.below qb102 (Nat.le_refl _)).more qb102.size; replace kM := kM.below qb102 kM.lt; replace sN := (sN.below qb102 (Nat.le_refl _)).more qb102.size; replace kN := kN.below qb102 kN.lt; replace sG := (sG.below qb102 (Nat.le_refl _)).more qb102.size; replace kG := kG.below qb102 kG.lt; replace HBW := below_on HBW qb102 (Nat.le_refl _); clear b102 qb102; obtain ⟨B1, e1, rfl⟩ := z1.form; have tW := z1.sees; clear z1)
      | (go_at_call 16; refine (lwNums_see6 _ _ _ _ _ _ sW tW (by omega)).mono ?_; rintro e w103 ⟨rfl, n103, hn103⟩; have b103 := below_drawn hn103; clear hn103; have qb103 : Below w102.heap.size w102 w103 := ⟨b103.os, b103.tape, b103.output, b103.size, b103.block⟩; replace sT := (sT.below qb103 (Nat.le_refl _)).more qb103.size; replace sW := (sW.below qb103 (Nat.le_refl _)).more qb103.size; replace kW := kW.below qb103 kW.lt; replace sM := (sM.below qb103 (Nat.le_refl _)).more qb103.size; replace kM := kM.below qb103 kM.lt; replace sN := (sN.below qb103 (Nat.le_refl _)).more qb103.size; replace kN := kN.below qb103 kN.lt; replace sG := (sG.below qb103 (Nat.le_refl _)).more qb103.size; replace kG := kG.below qb103 kG.lt; replace tW := (tW.below qb103 (Nat.le_refl _)).more qb103.size; replace HBW := below_on HBW qb103 (Nat.le_refl _); clear b103 qb103; clear tW)
      | (go_at_call 17; refine (specMarksOf_val _ ts b _ _ sT (Nat.le_refl _) (by omega) WT.out WB.out).mono ?_; rintro e w104 ⟨⟨y1, rfl, z1⟩, b104⟩; have qb104 : Below w103.heap.size w103 w104 := ⟨b104.os, b104.tape, b104.output, b104.size, b104.block⟩; replace sT := (sT.below qb104 (Nat.le_refl _)).more qb104.size; replace sW := (sW.below qb104 (Nat.le_refl _)).more qb104.size; replace kW := kW.below qb104 kW.lt; replace sM := (sM.below qb104 (Nat.le_refl _)).more qb104.size; replace kM := kM.below qb104 kM.lt; replace sN := (sN.below qb104 (Nat.le_refl _)).more qb104.size; replace kN := kN.below qb104 kN.lt; replace sG := (sG.below qb104 (Nat.le_refl _)).more qb104.size; replace kG := kG.below qb104 kG.lt; replace HBW := below_on HBW qb104 (Nat.le_refl _); clear b104 qb104; obtain ⟨B2, e2, rfl⟩ := z1.form; have tM := z1.sees; clear z1)
      | (go_at_call 16; refine (lwNums_see6 _ _ _ _ _ _ sM tM (by omega)).mono ?_; rintro e w105 ⟨rfl, n105, hn105⟩; have b105 := below_drawn hn105; clear hn105; have qb105 : Below w104.heap.size w104 w105 := ⟨b105.os, b105.tape, b105.output, b105.size, b105.block⟩; replace sT := (sT.below qb105 (Nat.le_refl _)).more qb105.size; replace sW := (sW.below qb105 (Nat.le_refl _)).more qb105.size; replace kW := kW.below qb105 kW.lt; replace sM := (sM.below qb105 (Nat.le_refl _)).more qb105.size; replace kM := kM.below qb105 kM.lt; replace sN := (sN.below qb105 (Nat.le_refl _)).more qb105.size; replace kN := kN.below qb105 kN.lt; replace sG := (sG.below qb105 (Nat.le_refl _)).more qb105.size; replace kG := kG.below qb105 kG.lt; replace tM := (tM.below qb105 (Nat.le_refl _)).more qb105.size; replace HBW := below_on HBW qb105 (Nat.le_refl _); clear b105 qb105; clear tM)
      | (go_at_call 18; refine (specNumbersOf_val _ ts b _ _ sT (Nat.le_refl _) (by omega) WT.out WB.out).mono ?_; rintro e w106 ⟨⟨y1, rfl, z1⟩, b106⟩; have qb106 : Below w105.heap.size w105 w106 := ⟨b106.os, b106.tape, b106.output, b106.size, b106.block⟩; replace sT := (sT.below qb106 (Nat.le_refl _)).more qb106.size; replace sW := (sW.below qb106 (Nat.le_refl _)).more qb106.size; replace kW := kW.below qb106 kW.lt; replace sM := (sM.below qb106 (Nat.le_refl _)).more qb106.size; replace kM := kM.below qb106 kM.lt; replace sN := (sN.below qb106 (Nat.le_refl _)).more qb106.size; replace kN := kN.below qb106 kN.lt; replace sG := (sG.below qb106 (Nat.le_refl _)).more qb106.size; replace kG := kG.below qb106 kG.lt; replace HBW := below_on HBW qb106 (Nat.le_refl _); clear b106 qb106; obtain ⟨B3, e3, rfl⟩ := z1.form; have tN := z1.sees; clear z1)
      | (go_at_call 16; refine (lwNums_see6 _ _ _ _ _ _ sN tN (by omega)).mono ?_; rintro e w107 ⟨rfl, n107, hn107⟩; have b107 := below_drawn hn107; clear hn107; have qb107 : Below w106.heap.size w106 w107 := ⟨b107.os, b107.tape, b107.output, b107.size, b107.block⟩; replace sT := (sT.below qb107 (Nat.le_refl _)).more qb107.size; replace sW := (sW.below qb107 (Nat.le_refl _)).more qb107.size; replace kW := kW.below qb107 kW.lt; replace sM := (sM.below qb107 (Nat.le_refl _)).more qb107.size; replace kM := kM.below qb107 kM.lt; replace sN := (sN.below qb107 (Nat.le_refl _)).more qb107.size; replace kN := kN.below qb107 kN.lt; replace sG := (sG.below qb107 (Nat.le_refl _)).more qb107.size; replace kG := kG.below qb107 kG.lt; replace tN := (tN.below qb107 (Nat.le_refl _)).more qb107.size; replace HBW := below_on HBW qb107 (Nat.le_refl _); clear b107 qb107; clear tN)
      | (go_at_call 19; refine (specSignsOf_val _ ts b _ _ sT (Nat.le_refl _) (by omega) WT.out WB.out).mono ?_; rintro e w108 ⟨⟨y1, rfl, z1⟩, b108⟩; have qb108 : Below w107.heap.size w107 w108 := ⟨b108.os, b108.tape, b108.output, b108.size, b108.block⟩; replace sT := (sT.below qb108 (Nat.le_refl _)).more qb108.size; replace sW := (sW.below qb108 (Nat.le_refl _)).more qb108.size; replace kW := kW.below qb108 kW.lt; replace sM := (sM.below qb108 (Nat.le_refl _)).more qb108.size; replace kM := kM.below qb108 kM.lt; replace sN := (sN.below qb108 (Nat.le_refl _)).more qb108.size; replace kN := kN.below qb108 kN.lt; replace sG := (sG.below qb108 (Nat.le_refl _)).more qb108.size; replace kG := kG.below qb108 kG.lt; replace HBW := below_on HBW qb108 (Nat.le_refl _); clear b108 qb108; obtain ⟨B4, e4, rfl⟩ := z1.form; have tG := z1.sees; clear z1)
      | (go_at_call 16; refine (lwNums_see6 _ _ _ _ _ _ sG tG (by omega)).mono ?_; rintro e w109 ⟨rfl, n109, hn109⟩; have b109 := below_drawn hn109; clear hn109; have qb109 : Below w108.heap.size w108 w109 := ⟨b109.os, b109.tape, b109.output, b109.size, b109.block⟩; replace sT := (sT.below qb109 (Nat.le_refl _)).more qb109.size; replace sW := (sW.below qb109 (Nat.le_refl _)).more qb109.size; replace kW := kW.below qb109 kW.lt; replace sM := (sM.below qb109 (Nat.le_refl _)).more qb109.size; replace kM := kM.below qb109 kM.lt; replace sN := (sN.below qb109 (Nat.le_refl _)).more qb109.size; replace kN := kN.below qb109 kN.lt; replace sG := (sG.below qb109 (Nat.le_refl _)).more qb109.size; replace kG := kG.below qb109 kG.lt; replace tG := (tG.below qb109 (Nat.le_refl _)).more qb109.size; replace HBW := below_on HBW qb109 (Nat.le_refl _); clear b109 qb109; clear tG)
      | (go_at_call 20; refine (classesFault_val _ ts b _ _ sT (Nat.le_refl _) (by omega) WT.out WB.out).mono ?_; rintro e w110 ⟨rfl, b110⟩; have qb110 : Below w109.heap.size w109 w110 := ⟨b110.os, b110.tape, b110.output, b110.size, b110.block⟩; replace sT := (sT.below qb110 (Nat.le_refl _)).more qb110.size; replace sW := (sW.below qb110 (Nat.le_refl _)).more qb110.size; replace kW := kW.below qb110 kW.lt; replace sM := (sM.below qb110 (Nat.le_refl _)).more qb110.size; replace kM := kM.below qb110 kM.lt; replace sN := (sN.below qb110 (Nat.le_refl _)).more qb110.size; replace kN := kN.below qb110 kN.lt; replace sG := (sG.below qb110 (Nat.le_refl _)).more qb110.size; replace kG := kG.below qb110 kG.lt; replace HBW := below_on HBW qb110 (Nat.le_refl _); clear b110 qb110)
      )
    have ce0 := kW.cell 0 (u := .int .i64 (classF ts b)) rfl
    have ce1 := kW.cell 1 (u := .slice AW (weakV ts b).length cW) rfl
    have ce2 := kM.cell 0 (u := .int .i64 (classF ts b)) rfl
    have ce3 := kM.cell 1 (u := .slice AM (marksV ts b).length cM) rfl
    have ce4 := kN.cell 0 (u := .int .i64 (classF ts b)) rfl
    have ce5 := kN.cell 1 (u := .slice AN (numsV ts b).length cN) rfl
    have ce6 := kG.cell 0 (u := .int .i64 (classF ts b)) rfl
    have ce7 := kG.cell 1 (u := .slice AG (signsV ts b).length cG) rfl
    by_cases hz : classF ts b = 0
    · have F := Lib.hid (weak_facts hz)
      have g0 : (classF ts b != 0) = false := by simp [hz]
      have HZ := Lib.hid hz
      have TL := (classF_zero hz).1
      have LW := Lib.hid F.out.lenW
      have LM := Lib.hid F.out.lenM
      have gl : (((weakV ts b).length : Int) != (ts.length : Int)) = false := by rw [LW.out]; simp
      have WW := Lib.hid (wf_cls F.out.inW)
      have WM := Lib.hid (wf_cls F.out.inM)
      have WN := Lib.hid (wf_cls F.out.inN)
      clear hz
      go_wp2
      go_loop [9] (fun i => ∃ k : Nat, k ≤ ts.length ∧ i = .int .i64 k) (fun i => ts.length - (intOf i).toNat)
      case atStart => exact ⟨0, by omega, rfl⟩
      case round =>
        obtain ⟨k, hk, rfl⟩ := hrel
        by_cases hlt : k < ts.length
        · obtain ⟨AL, cL, eL, rL⟩ := sW
          injection eL with eL1 eL2 eL3
          clear eL2
          subst eL1; subst eL3
          obtain ⟨bL, offL, rfl, hbL, hcL⟩ := rL.int (by rw [LW.out]; omega)
          have hcw := hcL k (by rw [LW.out]; exact hlt)
          clear hcL rL
          obtain ⟨AL, cL, eL, rL⟩ := sM
          injection eL with eL1 eL2 eL3
          clear eL2
          subst eL1; subst eL3
          obtain ⟨bM, offM, rfl, hbM, hcM⟩ := rL.int (by rw [LM.out]; omega)
          have hcm := hcM k (by rw [LM.out]; exact hlt)
          clear hcM rL
          have lf := F.out.left k hlt
          have n8 := F.out.no8 k hlt
          obtain ⟨x, hx⟩ : ∃ x, Hid (nth (weakV ts b) k = x) := ⟨_, Lib.hid rfl⟩
          obtain ⟨y, hy⟩ : ∃ y, Hid (nth (marksV ts b) k = y) := ⟨_, Lib.hid rfl⟩
          rw [hx.out] at hcw lf
          rw [hy.out] at hcm n8
          obtain ⟨l2, l4, l5, l7, l8⟩ := lf
          have x2 : (x == 2) = false := by simpa using l2
          have x4 : (x == 4) = false := by simpa using l4
          have x5 : (x == 5) = false := by simpa using l5
          have x7 : (x == 7) = false := by simpa using l7
          have x8 : (x == 8) = false := by simpa using l8
          have y8 : (y == 8) = false := by simpa using n8
          have ilw : (k : Int) < ((weakV ts b).length : Int) := by rw [LW.out]; omega
          have ilm : (k : Int) < ((marksV ts b).length : Int) := by rw [LM.out]; omega
          clear l2 l4 l5 l7 l8 n8
          go_wp2
          go_round
          case rel => exact ⟨k + 1, by omega, by go_num⟩
          case measure => first | omega | (simp [intOf]; omega)
        · obtain rfl : k = ts.length := by omega
          clear hk hlt
          go_wp2_with fail
          have bz : Below w110.heap.size w110 w110.drew := ⟨rfl, rfl, rfl, Nat.le_refl _, fun _ _ => rfl⟩
          replace sT := (sT.below bz (Nat.le_refl _)).more bz.size
          replace sW := (sW.below bz (Nat.le_refl _)).more bz.size
          replace kW := kW.below bz kW.lt
          replace sM := (sM.below bz (Nat.le_refl _)).more bz.size
          replace kM := kM.below bz kM.lt
          replace sN := (sN.below bz (Nat.le_refl _)).more bz.size
          replace kN := kN.below bz kN.lt
          replace sG := (sG.below bz (Nat.le_refl _)).more bz.size
          replace kG := kG.below bz kG.lt
          replace HBW := below_on HBW bz (Nat.le_refl _)
          clear bz
          go_region_held3 (fun w' => w'.cell? ⟨w2.heap.size, 1, none⟩ = some (.slice AW (weakV ts b).length cW) ∧ w'.cell? ⟨w4.heap.size, 1, none⟩ = some (.slice AM (marksV ts b).length cM)) (exact ⟨kW.cell 1 rfl, kM.cell 1 rfl⟩) (first
            | (go_at_call 11; refine (weakOf_val _ (weakV ts b) b _ _ sW (Nat.le_refl _) (by omega) WW.out WB.out).mono ?_; rintro e w201 ⟨⟨y1, rfl, z1⟩, b201⟩; have qb201 : Below w110.drew.heap.size w110.drew w201 := ⟨b201.os, b201.tape, b201.output, b201.size, b201.block⟩; replace sW := (sW.below qb201 (Nat.le_refl _)).more qb201.size; replace kW := kW.below qb201 kW.lt; replace sM := (sM.below qb201 (Nat.le_refl _)).more qb201.size; replace kM := kM.below qb201 kM.lt; replace HBW := below_on HBW qb201 (Nat.le_refl _); clear b201 qb201; rw [F.out.stays] at z1; obtain ⟨B9, e9, rfl⟩ := z1.form; have tW := z1.sees; clear z1)
            | (go_at_call 16; refine (lwNums_see6 _ _ _ _ _ _ tW sW (by omega)).mono ?_; rintro e w202 ⟨rfl, n202, hn202⟩; have b202 := below_drawn hn202; clear hn202; have qb202 : Below w201.heap.size w201 w202 := ⟨b202.os, b202.tape, b202.output, b202.size, b202.block⟩; replace sW := (sW.below qb202 (Nat.le_refl _)).more qb202.size; replace kW := kW.below qb202 kW.lt; replace sM := (sM.below qb202 (Nat.le_refl _)).more qb202.size; replace kM := kM.below qb202 kM.lt; replace tW := (tW.below qb202 (Nat.le_refl _)).more qb202.size; replace HBW := below_on HBW qb202 (Nat.le_refl _); clear b202 qb202; clear tW)
            | (go_at_call 13; refine (numbersOf_val _ (marksV ts b) b _ _ sM (Nat.le_refl _) (by omega) WM.out WB.out).mono ?_; rintro e w203 ⟨⟨y1, rfl, z1⟩, b203⟩; have qb203 : Below w202.heap.size w202 w203 := ⟨b203.os, b203.tape, b203.output, b203.size, b203.block⟩; replace sW := (sW.below qb203 (Nat.le_refl _)).more qb203.size; replace kW := kW.below qb203 kW.lt; replace sM := (sM.below qb203 (Nat.le_refl _)).more qb203.size; replace kM := kM.below qb203 kM.lt; replace HBW := below_on HBW qb203 (Nat.le_refl _); clear b203 qb203; obtain ⟨B8, e8, rfl⟩ := z1.form; have tN := z1.sees; clear z1)
            | (go_at_call 14; refine (signsOf_val _ (numsV (marksV ts b) b) b _ _ tN (Nat.le_refl _) (by have := numsV_len (marksV ts b) b; omega) WN.out WB.out).mono ?_; rintro e w204 ⟨⟨y1, rfl, z1⟩, b204⟩; have qb204 : Below w203.heap.size w203 w204 := ⟨b204.os, b204.tape, b204.output, b204.size, b204.block⟩; replace sW := (sW.below qb204 (Nat.le_refl _)).more qb204.size; replace kW := kW.below qb204 kW.lt; replace sM := (sM.below qb204 (Nat.le_refl _)).more qb204.size; replace kM := kM.below qb204 kM.lt; replace tN := (tN.below qb204 (Nat.le_refl _)).more qb204.size; replace HBW := below_on HBW qb204 (Nat.le_refl _); clear b204 qb204; rw [F.out.three] at z1; obtain ⟨B7, e7, rfl⟩ := z1.form; have tG := z1.sees; clear z1)
            | (go_at_call 16; refine (lwNums_see6 _ _ _ _ _ _ tG sW (by omega)).mono ?_; rintro e w205 ⟨rfl, n205, hn205⟩; have b205 := below_drawn hn205; clear hn205; have qb205 : Below w204.heap.size w204 w205 := ⟨b205.os, b205.tape, b205.output, b205.size, b205.block⟩; replace sW := (sW.below qb205 (Nat.le_refl _)).more qb205.size; replace kW := kW.below qb205 kW.lt; replace sM := (sM.below qb205 (Nat.le_refl _)).more qb205.size; replace kM := kM.below qb205 kM.lt; replace tN := (tN.below qb205 (Nat.le_refl _)).more qb205.size; replace tG := (tG.below qb205 (Nat.le_refl _)).more qb205.size; replace HBW := below_on HBW qb205 (Nat.le_refl _); clear b205 qb205; clear tG)
            )
          go_wp2
          go_ret
          exact ⟨rfl, HBW⟩
    · have g0 : (classF ts b != 0) = true := by simpa using hz
      obtain ⟨f, hf⟩ : ∃ f, classF ts b = f := ⟨_, rfl⟩
      rw [hf] at *
      clear hf
      go_wp2
      go_ret
      exact ⟨rfl, HBW⟩
end Go.Proofs.Ytmcmfklkljehiaa.fnWeaks
