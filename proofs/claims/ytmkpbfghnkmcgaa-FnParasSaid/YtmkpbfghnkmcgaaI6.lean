/- FnParas: the walk (laid by wip/bin/genpar.py). -/
import Derived.Test.YtmkpbfghnkmcgaaI4
import Derived.Test.YtmkpbfghnkmcgaaI5
import Derived.Test.YtmkpbfghnkmcgaaG3
import Derived.Test.YtmkpbfghnkmcgaaG4
import Derived.Test.YtmkpbfghnkmcgaaG6
import Derived.Laws.StructEq
import Derived.Deep.RegionHeld3
namespace Go.Proofs.Ytmkpbfghnkmcgaa
open Go.RowKit
theorem lwBig_any' (A : Option Addr) (n c : Nat) (w : World) :
    Calls Try.prog 11 #[.slice A n c] w fun e w' => e = .returned (.bool (decide (1048576 < n))) ∧ w = w' := by
  go_enter Try.func11, Try.ntmps11
  go_wp2
  go_ret
  exact ⟨rbool (by simp; omega), rfl⟩
end Go.Proofs.Ytmkpbfghnkmcgaa
namespace Go.Proofs.Ytmkpbfghnkmcgaa.fnParas
open Go.RowKit

attribute [local go_sem] Oper.semAt_some
theorem field_p0 (y z : Value) (n : Int) (w : World) : (Instr.field 28 (.agg #[.int .i64 n, y, z]) 0).run Try.prog w = .ok (.int .i64 n) w := by simp [Instr.field, go_sem, asAgg]
theorem field_p1 (x z : Value) (A : Option Addr) (n c : Nat) (w : World) : (Instr.field 28 (.agg #[x, .slice A n c, z]) 1).run Try.prog w = .ok (.slice A n c) w := by simp [Instr.field, go_sem, asAgg]
theorem field_p2 (x y : Value) (b : Bool) (w : World) : (Instr.field 28 (.agg #[x, y, .bool b]) 2).run Try.prog w = .ok (.bool b) w := by simp [Instr.field, go_sem, asAgg]
theorem field_i0 (y : Value) (n : Int) (w : World) : (Instr.field 31 (.agg #[.int .i64 n, y]) 0).run Try.prog w = .ok (.int .i64 n) w := by simp [Instr.field, go_sem, asAgg]
theorem field_i1 (x : Value) (A : Option Addr) (n c : Nat) (w : World) : (Instr.field 31 (.agg #[x, .slice A n c]) 1).run Try.prog w = .ok (.slice A n c) w := by simp [Instr.field, go_sem, asAgg]
theorem field_v (x : Value) (n : Int) (w : World) : (Instr.field 34 (.agg #[x, .int .i64 n]) 1).run Try.prog w = .ok (.int .i64 n) w := by simp [Instr.field, go_sem, asAgg]
attribute [local go_sem] field_p0 field_p1 field_p2 field_i0 field_i1 field_v
theorem lwNums_see (A A' : Option Addr) (n n' c c' : Nat) {xs : List Int} {w w0 w1 : World} {B B' : Nat} (h1 : Sees w0 B .i64 (.slice A n c) xs) (h2 : Sees w1 B' .i64 (.slice A' n' c') xs) (l1 : xs.length < 1000000000) (e0 : w0.heap = w.heap := by rfl) (e1 : w1.heap = w.heap := by rfl) :
    Calls Try.prog 20 #[.slice A n c, .slice A' n' c'] w fun e w' => e = .returned (.bool true) ∧ ∃ n, w' = w.drewN n :=
  lwNums_same _ _ xs w B B' (h1.keep fun k _ => by rw [e0]) (h2.keep fun k _ => by rw [e1]) l1
theorem SeesSS.keep' {w w' : World} {B : Nat} {kd : IntKind} {v : Value} {zss : List (List Int)} (h : SeesSS w B kd v zss) (e : w.heap = w'.heap) : SeesSS w' B kd v zss := by
  obtain ⟨us, h⟩ := h; exact ⟨us, h.keep fun k _ => by rw [e]⟩
theorem lwLists_see (A A' : Option Addr) (n n' c c' : Nat) {xs : List (List Int)} {w w0 w1 : World} {B B' : Nat} (h1 : SeesSS w0 B .i64 (.slice A n c) xs) (h2 : SeesSS w1 B' .i64 (.slice A' n' c') xs) (l1 : xs.length + total xs < 1000000000) (e0 : w0.heap = w.heap := by rfl) (e1 : w1.heap = w.heap := by rfl) :
    Calls Try.prog 18 #[.slice A n c, .slice A' n' c'] w fun e w' => e = .returned (.bool true) ∧ ∃ n, w' = w.drewN n :=
  lwLists_same _ _ xs w B B' (SeesSS.keep' h1 e0) (SeesSS.keep' h2 e1) l1

set_option maxRecDepth 100000 in
set_option maxHeartbeats 8000000 in
theorem walk (A : Option Addr) (zs : List Int) (c : Nat) (w : World) (r : Rd w w.heap.size A (nums .u8 zs)) (hw : ∀ n ∈ zs, (Lit.int .u8 n).wf = true) :
    Calls Try.prog 3 #[.slice A zs.length c] w fun e w' => e = .returned (.bool true) ∧ Below w.heap.size w w' := by
  by_cases hl : 1048576 < zs.length
  · have d0 : decide (1048576 < zs.length) = true := by simp [hl]
    go_enter Try.func3, Try.ntmps3
    go_wp2_with fail
    refine (lwBig_any' A zs.length c w).mono ?_
    rintro e w1 ⟨rfl, rfl⟩
    rw [d0]
    go_wp2
    go_ret
    exact ⟨rfl, Below.refl _ _⟩
  · have d0 : decide (1048576 < zs.length) = false := by simp [hl]
    have HB := Lib.hid (bytes_of hw)
    have zl : zs.length < 2000000 := by omega
    have R := r
    clear hl r hw
    go_enter Try.func3, Try.ntmps3
    go_wp2_with fail
    refine (lwBig_any' A zs.length c w).mono ?_
    rintro e w1 ⟨rfl, rfl⟩
    rw [d0]
    have HBW := Below.refl w.heap.size w
    go_wp2_with fail
    refine (drawSplitText_any A c zs w R HB.out zl).mono ?_
    rintro e w1 ⟨⟨v, rfl, ts, o, lt, ht⟩, b1⟩
    replace R := R.on b1
    replace HBW := below_on HBW b1 (Nat.le_refl _)
    clear b1
    obtain ⟨A1, c1, rfl⟩ := o.form
    have sT := o.sees
    clear o
    have WT := Lib.hid ht.wf
    clear ht
    go_wp2_with fail
    refine (splitText_val _ ts w1 w1.heap.size sT (Nat.le_refl _) (by omega) WT.out).mono ?_
    rintro e w2 ⟨⟨u, rfl, o⟩, b2⟩
    replace R := R.on b2
    replace sT := (sT.below b2 (Nat.le_refl _)).more b2.size
    replace HBW := below_on HBW b2 (Nat.le_refl _)
    clear b2
    obtain ⟨A2, c2, rfl⟩ := o.form
    have sP := o.sees
    clear o
    have pt := parasV_total ts
    have b3 := (Below.refl w2.heap.size w2).alloc (Nat.le_refl _) (.cells #[.int .i64 (textF ts), .slice A2 (parasV ts).length c2, .bool (endedV ts)] 28)
    have kS := Blk.new w2 28 #[.int .i64 (textF ts), .slice A2 (parasV ts).length c2, .bool (endedV ts)]
    replace R := R.on b3
    replace sT := (sT.below b3 (Nat.le_refl _)).more b3.size
    replace sP := (sP.below b3 (Nat.le_refl _)).more b3.size
    replace HBW := below_on HBW b3 (Nat.le_refl _)
    clear b3
    go_wp2_with fail
    generalize hg3 : w2.alloc (.cells #[.int .i64 (textF ts), .slice A2 (parasV ts).length c2, .bool (endedV ts)] 28) = w3 at *
    clear hg3
    refine (drawMatchesOf_any A c zs w3 R HB.out zl).mono ?_
    rintro e w4 ⟨⟨v, rfl, ms, o, lm, hm⟩, b4⟩
    replace R := R.on b4
    replace sT := (sT.below b4 (Nat.le_refl _)).more b4.size
    replace sP := (sP.below b4 (Nat.le_refl _)).more b4.size
    replace kS := kS.below b4 kS.lt
    replace HBW := below_on HBW b4 (Nat.le_refl _)
    clear b4
    obtain ⟨A3, c3, rfl⟩ := o.form
    have sM := o.sees
    clear o
    have WM := Lib.hid hm.wf
    clear hm
    go_wp2_with fail
    refine (matchesOf_val _ ms w4 w4.heap.size sM (Nat.le_refl _) (by omega) WM.out).mono ?_
    rintro e w5 ⟨⟨u, rfl, o⟩, b5⟩
    replace R := R.on b5
    replace sT := (sT.below b5 (Nat.le_refl _)).more b5.size
    replace sP := (sP.below b5 (Nat.le_refl _)).more b5.size
    replace kS := kS.below b5 kS.lt
    replace sM := (sM.below b5 (Nat.le_refl _)).more b5.size
    replace HBW := below_on HBW b5 (Nat.le_refl _)
    clear b5
    obtain ⟨A4, c4, rfl⟩ := o.form
    have sL := o.sees
    clear o
    have ml := matL_len ms
    have b6 := (Below.refl w5.heap.size w5).alloc (Nat.le_refl _) (.cells #[.int .i64 (textF ms), .slice A4 (matL ms).length c4] 31)
    have kM := Blk.new w5 31 #[.int .i64 (textF ms), .slice A4 (matL ms).length c4]
    replace R := R.on b6
    replace sT := (sT.below b6 (Nat.le_refl _)).more b6.size
    replace sP := (sP.below b6 (Nat.le_refl _)).more b6.size
    replace kS := kS.below b6 kS.lt
    replace sM := (sM.below b6 (Nat.le_refl _)).more b6.size
    replace sL := (sL.below b6 (Nat.le_refl _)).more b6.size
    replace HBW := below_on HBW b6 (Nat.le_refl _)
    clear b6
    go_wp2_with fail
    generalize hg6 : w5.alloc (.cells #[.int .i64 (textF ms), .slice A4 (matL ms).length c4] 31) = w6 at *
    clear hg6
    refine (baseLevel_val _ ms w6 w6.heap.size sM (Nat.le_refl _) (by omega) WM.out).mono ?_
    rintro e w7 ⟨rfl, b7⟩
    replace R := R.on b7
    replace sT := (sT.below b7 (Nat.le_refl _)).more b7.size
    replace sP := (sP.below b7 (Nat.le_refl _)).more b7.size
    replace kS := kS.below b7 kS.lt
    replace sM := (sM.below b7 (Nat.le_refl _)).more b7.size
    replace sL := (sL.below b7 (Nat.le_refl _)).more b7.size
    replace kM := kM.below b7 kM.lt
    replace HBW := below_on HBW b7 (Nat.le_refl _)
    clear b7
    have b8 := (Below.refl w7.heap.size w7).alloc (Nat.le_refl _) (.cells #[.int .i64 (textF ms), .int .i64 (baseV ms)] 34)
    have kB := Blk.new w7 34 #[.int .i64 (textF ms), .int .i64 (baseV ms)]
    replace R := R.on b8
    replace sT := (sT.below b8 (Nat.le_refl _)).more b8.size
    replace sP := (sP.below b8 (Nat.le_refl _)).more b8.size
    replace kS := kS.below b8 kS.lt
    replace sM := (sM.below b8 (Nat.le_refl _)).more b8.size
    replace sL := (sL.below b8 (Nat.le_refl _)).more b8.size
    replace kM := kM.below b8 kM.lt
    replace HBW := below_on HBW b8 (Nat.le_refl _)
    clear b8
    go_wp2_with fail
    generalize hg8 : w7.alloc (.cells #[.int .i64 (textF ms), .int .i64 (baseV ms)] 34) = w8 at *
    clear hg8
    have bz : Below w8.heap.size w8 w8.drew := ⟨rfl, rfl, rfl, Nat.le_refl _, fun _ _ => rfl⟩
    replace R := R.on bz
    replace sT := (sT.below bz (Nat.le_refl _)).more bz.size
    replace sP := (sP.below bz (Nat.le_refl _)).more bz.size
    replace kS := kS.below bz kS.lt
    replace sM := (sM.below bz (Nat.le_refl _)).more bz.size
    replace sL := (sL.below bz (Nat.le_refl _)).more bz.size
    replace kM := kM.below bz kM.lt
    replace kB := kB.below bz kB.lt
    replace HBW := below_on HBW bz (Nat.le_refl _)
    clear bz
    go_region_held3 (fun w' => w'.cell? ⟨w2.heap.size, 0, none⟩ = some (.int .i64 (textF ts)) ∧ w'.cell? ⟨w2.heap.size, 1, none⟩ = some (.slice A2 (parasV ts).length c2) ∧ w'.cell? ⟨w2.heap.size, 2, none⟩ = some (.bool (endedV ts)) ∧ w'.cell? ⟨w5.heap.size, 0, none⟩ = some (.int .i64 (textF ms)) ∧ w'.cell? ⟨w5.heap.size, 1, none⟩ = some (.slice A4 (matL ms).length c4) ∧ w'.cell? ⟨w7.heap.size, 0, none⟩ = some (.int .i64 (textF ms)) ∧ w'.cell? ⟨w7.heap.size, 1, none⟩ = some (.int .i64 (baseV ms))) (exact ⟨kS.cell 0 rfl, kS.cell 1 rfl, kS.cell 2 rfl, kM.cell 0 rfl, kM.cell 1 rfl, kB.cell 0 rfl, kB.cell 1 rfl⟩) (first
      | (go_at_call 17; refine (specSplitText_val _ ts _ _ sT (Nat.le_refl _) (by omega) WT.out).mono ?_; rintro e w101 ⟨⟨y1, rfl, z1⟩, b101⟩; have qb101 : Below w8.drew.heap.size w8.drew w101 := ⟨b101.os, b101.tape, b101.output, b101.size, b101.block⟩; replace R := R.on qb101; replace sT := (sT.below qb101 (Nat.le_refl _)).more qb101.size; replace sP := (sP.below qb101 (Nat.le_refl _)).more qb101.size; replace kS := kS.below qb101 kS.lt; replace sM := (sM.below qb101 (Nat.le_refl _)).more qb101.size; replace sL := (sL.below qb101 (Nat.le_refl _)).more qb101.size; replace kM := kM.below qb101 kM.lt; replace kB := kB.below qb101 kB.lt; replace HBW := below_on HBW qb101 (Nat.le_refl _); clear b101 qb101; obtain ⟨B1, e1, rfl⟩ := z1.form; clear z1)
      | (go_at_call 17; refine (specSplitText_val _ ts _ _ sT (Nat.le_refl _) (by omega) WT.out).mono ?_; rintro e w102 ⟨⟨y1, rfl, z1⟩, b102⟩; have qb102 : Below w101.heap.size w101 w102 := ⟨b102.os, b102.tape, b102.output, b102.size, b102.block⟩; replace R := R.on qb102; replace sT := (sT.below qb102 (Nat.le_refl _)).more qb102.size; replace sP := (sP.below qb102 (Nat.le_refl _)).more qb102.size; replace kS := kS.below qb102 kS.lt; replace sM := (sM.below qb102 (Nat.le_refl _)).more qb102.size; replace sL := (sL.below qb102 (Nat.le_refl _)).more qb102.size; replace kM := kM.below qb102 kM.lt; replace kB := kB.below qb102 kB.lt; replace HBW := below_on HBW qb102 (Nat.le_refl _); clear b102 qb102; obtain ⟨B2, e2, rfl⟩ := z1.form; have sP2 := z1.sees; clear z1)
      | (go_at_call 18; refine (lwLists_see _ _ _ _ _ _ sP sP2 (by omega)).mono ?_; rintro e w103 ⟨rfl, n103, hn103⟩; have b103 := below_drawn hn103; clear hn103; have qb103 : Below w102.heap.size w102 w103 := ⟨b103.os, b103.tape, b103.output, b103.size, b103.block⟩; replace R := R.on qb103; replace sT := (sT.below qb103 (Nat.le_refl _)).more qb103.size; replace sP := (sP.below qb103 (Nat.le_refl _)).more qb103.size; replace kS := kS.below qb103 kS.lt; replace sM := (sM.below qb103 (Nat.le_refl _)).more qb103.size; replace sL := (sL.below qb103 (Nat.le_refl _)).more qb103.size; replace kM := kM.below qb103 kM.lt; replace kB := kB.below qb103 kB.lt; replace HBW := below_on HBW qb103 (Nat.le_refl _); clear b103 qb103)
      | (go_at_call 17; refine (specSplitText_val _ ts _ _ sT (Nat.le_refl _) (by omega) WT.out).mono ?_; rintro e w104 ⟨⟨y1, rfl, z1⟩, b104⟩; have qb104 : Below w103.heap.size w103 w104 := ⟨b104.os, b104.tape, b104.output, b104.size, b104.block⟩; replace R := R.on qb104; replace sT := (sT.below qb104 (Nat.le_refl _)).more qb104.size; replace sP := (sP.below qb104 (Nat.le_refl _)).more qb104.size; replace kS := kS.below qb104 kS.lt; replace sM := (sM.below qb104 (Nat.le_refl _)).more qb104.size; replace sL := (sL.below qb104 (Nat.le_refl _)).more qb104.size; replace kM := kM.below qb104 kM.lt; replace kB := kB.below qb104 kB.lt; replace HBW := below_on HBW qb104 (Nat.le_refl _); clear b104 qb104; obtain ⟨B3, e3, rfl⟩ := z1.form; clear z1)
      | (go_at_call 19; refine (specMatchesOf_val _ ms _ _ sM (Nat.le_refl _) (by omega) WM.out).mono ?_; rintro e w105 ⟨⟨y1, rfl, z1⟩, b105⟩; have qb105 : Below w104.heap.size w104 w105 := ⟨b105.os, b105.tape, b105.output, b105.size, b105.block⟩; replace R := R.on qb105; replace sT := (sT.below qb105 (Nat.le_refl _)).more qb105.size; replace sP := (sP.below qb105 (Nat.le_refl _)).more qb105.size; replace kS := kS.below qb105 kS.lt; replace sM := (sM.below qb105 (Nat.le_refl _)).more qb105.size; replace sL := (sL.below qb105 (Nat.le_refl _)).more qb105.size; replace kM := kM.below qb105 kM.lt; replace kB := kB.below qb105 kB.lt; replace HBW := below_on HBW qb105 (Nat.le_refl _); clear b105 qb105; obtain ⟨B4, e4, rfl⟩ := z1.form; clear z1)
      | (go_at_call 19; refine (specMatchesOf_val _ ms _ _ sM (Nat.le_refl _) (by omega) WM.out).mono ?_; rintro e w106 ⟨⟨y1, rfl, z1⟩, b106⟩; have qb106 : Below w105.heap.size w105 w106 := ⟨b106.os, b106.tape, b106.output, b106.size, b106.block⟩; replace R := R.on qb106; replace sT := (sT.below qb106 (Nat.le_refl _)).more qb106.size; replace sP := (sP.below qb106 (Nat.le_refl _)).more qb106.size; replace kS := kS.below qb106 kS.lt; replace sM := (sM.below qb106 (Nat.le_refl _)).more qb106.size; replace sL := (sL.below qb106 (Nat.le_refl _)).more qb106.size; replace kM := kM.below qb106 kM.lt; replace kB := kB.below qb106 kB.lt; replace HBW := below_on HBW qb106 (Nat.le_refl _); clear b106 qb106; obtain ⟨B5, e5, rfl⟩ := z1.form; have sL2 := z1.sees; clear z1)
      | (go_at_call 20; refine (lwNums_see _ _ _ _ _ _ sL sL2 (by omega)).mono ?_; rintro e w107 ⟨rfl, n107, hn107⟩; have b107 := below_drawn hn107; clear hn107; have qb107 : Below w106.heap.size w106 w107 := ⟨b107.os, b107.tape, b107.output, b107.size, b107.block⟩; replace R := R.on qb107; replace sT := (sT.below qb107 (Nat.le_refl _)).more qb107.size; replace sP := (sP.below qb107 (Nat.le_refl _)).more qb107.size; replace kS := kS.below qb107 kS.lt; replace sM := (sM.below qb107 (Nat.le_refl _)).more qb107.size; replace sL := (sL.below qb107 (Nat.le_refl _)).more qb107.size; replace kM := kM.below qb107 kM.lt; replace kB := kB.below qb107 kB.lt; replace HBW := below_on HBW qb107 (Nat.le_refl _); clear b107 qb107)
      | (go_at_call 21; refine (specBaseLevel_val _ ms _ _ sM (Nat.le_refl _) (by omega) WM.out).mono ?_; rintro e w108 ⟨rfl, b108⟩; have qb108 : Below w107.heap.size w107 w108 := ⟨b108.os, b108.tape, b108.output, b108.size, b108.block⟩; replace R := R.on qb108; replace sT := (sT.below qb108 (Nat.le_refl _)).more qb108.size; replace sP := (sP.below qb108 (Nat.le_refl _)).more qb108.size; replace kS := kS.below qb108 kS.lt; replace sM := (sM.below qb108 (Nat.le_refl _)).more qb108.size; replace sL := (sL.below qb108 (Nat.le_refl _)).more qb108.size; replace kM := kM.below qb108 kM.lt; replace kB := kB.below qb108 kB.lt; replace HBW := below_on HBW qb108 (Nat.le_refl _); clear b108 qb108)
      | (go_at_call 22; refine (textFault_val _ ts _ _ sT (Nat.le_refl _) (by omega) WT.out).mono ?_; rintro e w109 ⟨rfl, b109⟩; have qb109 : Below w108.heap.size w108 w109 := ⟨b109.os, b109.tape, b109.output, b109.size, b109.block⟩; replace R := R.on qb109; replace sT := (sT.below qb109 (Nat.le_refl _)).more qb109.size; replace sP := (sP.below qb109 (Nat.le_refl _)).more qb109.size; replace kS := kS.below qb109 kS.lt; replace sM := (sM.below qb109 (Nat.le_refl _)).more qb109.size; replace sL := (sL.below qb109 (Nat.le_refl _)).more qb109.size; replace kM := kM.below qb109 kM.lt; replace kB := kB.below qb109 kB.lt; replace HBW := below_on HBW qb109 (Nat.le_refl _); clear b109 qb109)
      | (go_at_call 23; refine (specTextFault_val _ ts _ _ sT (Nat.le_refl _) (by omega) WT.out).mono ?_; rintro e w110 ⟨rfl, b110⟩; have qb110 : Below w109.heap.size w109 w110 := ⟨b110.os, b110.tape, b110.output, b110.size, b110.block⟩; replace R := R.on qb110; replace sT := (sT.below qb110 (Nat.le_refl _)).more qb110.size; replace sP := (sP.below qb110 (Nat.le_refl _)).more qb110.size; replace kS := kS.below qb110 kS.lt; replace sM := (sM.below qb110 (Nat.le_refl _)).more qb110.size; replace sL := (sL.below qb110 (Nat.le_refl _)).more qb110.size; replace kM := kM.below qb110 kM.lt; replace kB := kB.below qb110 kB.lt; replace HBW := below_on HBW qb110 (Nat.le_refl _); clear b110 qb110)
      )
    clear sM WM kB
    obtain ⟨i0, hi, hz0, hz1, hz2⟩ := info_parts info_int64
    by_cases hM : textF ms = 0
    · have fM : (textF ms == 0) = true := by simp [hM]
      have EL := Lib.hid (show matL ms = matchN (classesN ms) by unfold matL; rw [if_pos hM])
      have MB := Lib.hid (match_back (classesN ms))
      have EN := Lib.hid (show (classesN ms).length = (matL ms).length by rw [EL.out, matchN_len])
      rw [← EL.out, EN.out] at MB
      clear hM
      have cM0 := kM.cell 0 (u := .int .i64 (textF ms)) rfl
      have cM1 := kM.cell 1 (u := .slice A4 (matL ms).length c4) rfl
      go_wp2
      go_loop [8] (fun i => ∃ k : Nat, k ≤ (matL ms).length ∧ i = .int .i64 k) (fun i => (matL ms).length - (intOf i).toNat)
      case atStart => exact ⟨0, by omega, rfl⟩
      case round =>
        obtain ⟨k, hk, rfl⟩ := hrel
        by_cases hlt : k < (matL ms).length
        · obtain ⟨A4', c4', e4, r4⟩ := id sL
          injection e4 with e41 e42 e43
          clear e42
          subst e41; subst e43
          obtain ⟨b4, off4, rfl, _, hc4⟩ := r4.int (by omega)
          have hc0 := hc4 k hlt
          rcases MB.out k hlt with hm1 | ⟨h0, h1, h2, h3⟩
          · rw [hm1] at hc0
            clear hc4 r4 hm1
            go_wp2
            go_round
            case rel => exact ⟨k + 1, by omega, by go_num⟩
            case measure => first | omega | (simp [intOf]; omega)
          · obtain ⟨x, hx⟩ : ∃ x : Nat, Hid (nth (matL ms) k = (x : Int)) := ⟨(nth (matL ms) k).toNat, Lib.hid (by show _ = _; omega)⟩
            rw [hx.out] at hc0 h0 h1 h2 h3
            have x1 : x < (matL ms).length := by omega
            have hc1 := hc4 x x1
            rw [Int.toNat_natCast] at h3
            rw [h3] at hc1
            have f1 : ¬ ((matL ms).length : Int) ≤ (x : Int) := by omega
            have f2 : ((x : Int) == (k : Int)) = false := beq_eq_false_iff_ne.2 h2
            clear hc4 r4 h0 h1 h2 h3
            go_wp2
            go_round
            case rel => exact ⟨k + 1, by omega, by go_num⟩
            case measure => first | omega | (simp [intOf]; omega)
        · clear MB cM0
          by_cases hS : textF ts = 0
          · have fS : (textF ts != 0) = false := by simp [hS]
            have HZ := Lib.hid (textF_zero hS)
            have PE := Lib.hid (show (parasV ts).flatten = keepN ts by unfold parasV; rw [if_pos hS]; exact paras_kept ts)
            have lts := HZ.out.1
            clear hS
            have cS0 := kS.cell 0 (u := .int .i64 (textF ts)) rfl
            have o0 := Lib.hid (own_new w110 2 #[] 0 rfl (by omega))
            have b0 := Lib.hid ((Below.refl w110.heap.size w110).alloc (Nat.le_refl _) (.cells #[] 2))
            have SW := Lib.hid HBW.size
            go_wp2
            go_loopw [10, 11] (fun v i wr => ∃ k : Nat, k ≤ ts.length ∧ i = .int .i64 k ∧ Hid (wr.ownsRow w110.heap.size 2 1 v (keepN (ts.take k)).length (nums .i64 (keepN (ts.take k)))) ∧ Hid (Below w110.heap.size w110 wr)) (fun _ i _ => ts.length - (intOf i).toNat)
            case atStart => exact ⟨0, by omega, rfl, o0, b0⟩
            case round =>
              clear o0 b0 cS0
              obtain ⟨k, hk, rfl, ho, hbr⟩ := hrel
              have sz := hbr.out.size
              have kl : (keepN (ts.take k)).length ≤ 600 := by have := keepN_len (ts.take k); rw [List.length_take] at this; omega
              obtain ⟨AK, cK, rfl⟩ := own_form ho.out
              by_cases hlt : k < ts.length
              · obtain ⟨A1', c1', e1, r1⟩ := sT.below hbr.out (Nat.le_refl _)
                injection e1 with e11 e12 e13
                clear e12
                subst e11; subst e13
                obtain ⟨b1, off1, rfl, _, hc1⟩ := r1.int (by omega)
                have hc0 := hc1 k hlt
                clear hc1 r1
                have hch := chr_nth ts HZ.out.2 k hlt
                have HST := Lib.hid (keepN_step ts k hlt)
                obtain ⟨z, hz⟩ : ∃ z, Hid (nth ts k = z) := ⟨_, Lib.hid rfl⟩
                rw [hz.out] at hc0 hch HST
                have CY := Lib.hid (class_yes (show isChr z = true from hch))
                have WZ := Lib.hid (Drawn.wf (ts := [z]) (Drawn.one (by have := chrB_range hch; omega)) z (by simp))
                clear hch
                obtain ⟨qz, hqz⟩ : ∃ qz, Hid (classN z = qz) := ⟨_, Lib.hid rfl⟩
                rw [hqz.out] at HST CY
                go_wp2_with fail
                refine (specClassOf_val z wr WZ.out).mono ?_
                rintro e wq ⟨rfl, bq⟩
                rw [CY.out.1, CY.out.2]
                have bq2 := Lib.hid (below_on hbr.out bq (Nat.le_refl _))
                have oq := Lib.hid (own_below ho.out bq)
                have cq := bq.cell (p := ⟨b1, off1 + k, none⟩) (World.block_lt_of_cell? wr _ hc0)
                rw [hc0] at cq
                have sq := bq.size
                clear bq ho hbr hc0
                cases hq10 : (qz != 10)
                · have ES : Hid (keepN (ts.take (k + 1)) = keepN (ts.take k)) := Lib.hid (by rw [HST.out, hq10]; simp)
                  have oq2 : Hid (wq.ownsRow w110.heap.size 2 1 (.slice AK (keepN (ts.take k)).length cK) (keepN (ts.take (k + 1))).length (nums .i64 (keepN (ts.take (k + 1))))) := Lib.hid (by rw [ES.out]; exact oq.out)
                  go_wp2
                  go_roundw
                  case rel => exact ⟨k + 1, by omega, by go_num, oq2, bq2⟩
                  case measure => first | omega | (simp [intOf]; omega)
                · have ES : Hid (keepN (ts.take (k + 1)) = keepN (ts.take k) ++ [z]) := Lib.hid (by rw [HST.out, hq10]; simp)
                  go_wp2_with (at_builtin; go_loud (refine wpList_app rfl _ _ _ rfl w110.heap.size Try.underlying24 hi hz0 hz1 hz2 rfl (by omega) rfl (oq.out.alloc _) rfl (Rd.lit wq #[.int .i64 z] _) (m := 1) rfl (nums_one .i64 [z]) (by omega) (by omega) (by simp; omega) ?_); intro v' w5 o5 g5 a5; obtain ⟨A5, c5, rfl⟩ := own_form o5)
                  have gg := (World.grownBy_alloc wq (.cells #[.int .i64 z] 2) _).trans g5
                  have oq2 : Hid (w5.ownsRow w110.heap.size 2 1 (.slice A5 ((keepN (ts.take k)).length + 1) c5) (keepN (ts.take (k + 1))).length (nums .i64 (keepN (ts.take (k + 1))))) := Lib.hid (by rw [ES.out]; exact own_app1 o5 rfl)
                  have bq3 := Lib.hid (bq2.out.grown gg bq2.out.size (fun b hb => (oq.out.lt b hb).1))
                  clear o5 g5 a5 gg
                  go_roundw
                  case rel => exact ⟨k + 1, by omega, by go_num, oq2, bq3⟩
                  case measure => first | omega | (simp [intOf]; omega)
              · have e : ts.take k = ts := List.take_of_length_le (by omega)
                rw [e] at ho kl ⊢
                clear e
                obtain ⟨wo, hwo⟩ : ∃ wo : World, Hid (wo = wr) := ⟨_, Lib.hid rfl⟩
                rw [← hwo.out] at ho hbr sz ⊢
                clear hwo
                have o1 := Lib.hid (own_new wo 2 #[] 0 rfl (by omega))
                have b1 := Lib.hid ((Below.refl wo.heap.size wo).alloc (Nat.le_refl _) (.cells #[] 2))
                go_wp2
                go_loopw [12, 13] (fun v i wr => ∃ k : Nat, k ≤ (parasV ts).length ∧ i = .int .i64 k ∧ Hid (wr.ownsRow wo.heap.size 2 1 v (flatN (parasV ts) k).length (nums .i64 (flatN (parasV ts) k))) ∧ Hid (Below wo.heap.size wo wr)) (fun _ i _ => (parasV ts).length - (intOf i).toNat)
                case atStart => exact ⟨0, by omega, rfl, by rw [flatN_zero]; exact o1, b1⟩
                case round =>
                  clear o1 b1
                  obtain ⟨p, hp, rfl, hf, hb2⟩ := hrel
                  have sz2 := hb2.out.size
                  have hb3 := Lib.hid (below_on hbr.out hb2.out (Nat.le_refl _))
                  have kS2 := kS.below hb3.out kS.lt
                  have cS1 := kS2.cell 1 (u := .slice A2 (parasV ts).length c2) rfl
                  have fl : (flatN (parasV ts) p).length ≤ 2000 := by have := flatN_len (parasV ts) p; omega
                  obtain ⟨AF, cF, rfl⟩ := own_form hf.out
                  by_cases hlt : p < (parasV ts).length
                  · obtain ⟨b2, off2, c2', u2, e2, _, hc2, s2⟩ := (sP.below hb3.out (Nat.le_refl _)).at_ p hlt
                    injection e2 with e21 e22 e23
                    clear e22
                    subst e21; subst e23
                    have FS := Lib.hid (flatN_step (parasV ts) p hlt)
                    have tn := total_nth_le (parasV ts) p hlt
                    obtain ⟨ys, hys⟩ : ∃ ys, Hid (nthL (parasV ts) p = ys) := ⟨_, Lib.hid rfl⟩
                    rw [hys.out] at s2 FS tn
                    obtain ⟨A6, c6, rfl, r6⟩ := s2
                    have R6 := Lib.hid r6
                    clear r6
                    go_wp2_with (at_builtin; go_loud (refine wpList_app rfl _ _ _ rfl wo.heap.size Try.underlying24 hi hz0 hz1 hz2 rfl (by omega) rfl hf.out rfl R6.out (by rw [nums_length, Nat.mul_one]) (nums_one _ _) (by omega) (by omega) sz2 ?_); intro v' w5 o5 g5 a5; obtain ⟨A5, c5, rfl⟩ := own_form o5)
                    have hf2 : Hid (w5.ownsRow wo.heap.size 2 1 (.slice A5 ((flatN (parasV ts) p).length + ys.length) c5) (flatN (parasV ts) (p + 1)).length (nums .i64 (flatN (parasV ts) (p + 1)))) := Lib.hid (by rw [FS.out]; exact own_app o5 rfl)
                    have hb4 := Lib.hid (hb2.out.grown g5 sz2 (fun b hb => (hf.out.lt b hb).1))
                    clear o5 g5 a5
                    go_roundw
                    case rel => exact ⟨p + 1, by omega, by go_num, hf2, hb4⟩
                    case measure => first | omega | (simp [intOf]; omega)
                  · have e : flatN (parasV ts) p = keepN ts := by rw [flatN_all _ _ (by omega), PE.out]
                    rw [e] at hf ⊢
                    clear e fl
                    have sA := Lib.hid (show Sees wr wr.heap.size .i64 (.slice AF (keepN ts).length cF) (keepN ts) from ⟨AF, cF, rfl, Rd.of hf.out⟩)
                    have sB := Lib.hid (show Sees wr wr.heap.size .i64 (.slice AK (keepN ts).length cK) (keepN ts) from ⟨AK, cK, rfl, ((Rd.of ho.out).below hb2.out (Nat.le_refl _)).more sz2⟩)
                    go_wp2_with fail
                    refine (lwNums_same _ _ (keepN ts) wr _ _ sA.out sB.out (by omega)).mono ?_
                    rintro e w9 ⟨rfl, n9, h9⟩
                    have b9 := below_drawn h9
                    clear h9
                    go_wp2
                    go_ret
                    exact ⟨rfl, below_on (below_on HBW hb3.out (Nat.le_refl _)) b9 (Nat.le_refl _)⟩
          · have fS : (textF ts != 0) = true := by simpa using hS
            have cS0 := kS.cell 0 (u := .int .i64 (textF ts)) rfl
            clear hS
            go_wp2
            go_ret
            exact ⟨rfl, HBW⟩
    · have fM : (textF ms == 0) = false := beq_eq_false_iff_ne.2 hM
      have cM0 := kM.cell 0 (u := .int .i64 (textF ms)) rfl
      clear hM
      by_cases hS : textF ts = 0
      · have fS : (textF ts != 0) = false := by simp [hS]
        have HZ := Lib.hid (textF_zero hS)
        have PE := Lib.hid (show (parasV ts).flatten = keepN ts by unfold parasV; rw [if_pos hS]; exact paras_kept ts)
        have lts := HZ.out.1
        clear hS
        have cS0 := kS.cell 0 (u := .int .i64 (textF ts)) rfl
        have o0 := Lib.hid (own_new w110 2 #[] 0 rfl (by omega))
        have b0 := Lib.hid ((Below.refl w110.heap.size w110).alloc (Nat.le_refl _) (.cells #[] 2))
        have SW := Lib.hid HBW.size
        go_wp2
        go_loopw [10, 11] (fun v i wr => ∃ k : Nat, k ≤ ts.length ∧ i = .int .i64 k ∧ Hid (wr.ownsRow w110.heap.size 2 1 v (keepN (ts.take k)).length (nums .i64 (keepN (ts.take k)))) ∧ Hid (Below w110.heap.size w110 wr)) (fun _ i _ => ts.length - (intOf i).toNat)
        case atStart => exact ⟨0, by omega, rfl, o0, b0⟩
        case round =>
          clear o0 b0 cS0
          obtain ⟨k, hk, rfl, ho, hbr⟩ := hrel
          have sz := hbr.out.size
          have kl : (keepN (ts.take k)).length ≤ 600 := by have := keepN_len (ts.take k); rw [List.length_take] at this; omega
          obtain ⟨AK, cK, rfl⟩ := own_form ho.out
          by_cases hlt : k < ts.length
          · obtain ⟨A1', c1', e1, r1⟩ := sT.below hbr.out (Nat.le_refl _)
            injection e1 with e11 e12 e13
            clear e12
            subst e11; subst e13
            obtain ⟨b1, off1, rfl, _, hc1⟩ := r1.int (by omega)
            have hc0 := hc1 k hlt
            clear hc1 r1
            have hch := chr_nth ts HZ.out.2 k hlt
            have HST := Lib.hid (keepN_step ts k hlt)
            obtain ⟨z, hz⟩ : ∃ z, Hid (nth ts k = z) := ⟨_, Lib.hid rfl⟩
            rw [hz.out] at hc0 hch HST
            have CY := Lib.hid (class_yes (show isChr z = true from hch))
            have WZ := Lib.hid (Drawn.wf (ts := [z]) (Drawn.one (by have := chrB_range hch; omega)) z (by simp))
            clear hch
            obtain ⟨qz, hqz⟩ : ∃ qz, Hid (classN z = qz) := ⟨_, Lib.hid rfl⟩
            rw [hqz.out] at HST CY
            go_wp2_with fail
            refine (specClassOf_val z wr WZ.out).mono ?_
            rintro e wq ⟨rfl, bq⟩
            rw [CY.out.1, CY.out.2]
            have bq2 := Lib.hid (below_on hbr.out bq (Nat.le_refl _))
            have oq := Lib.hid (own_below ho.out bq)
            have cq := bq.cell (p := ⟨b1, off1 + k, none⟩) (World.block_lt_of_cell? wr _ hc0)
            rw [hc0] at cq
            have sq := bq.size
            clear bq ho hbr hc0
            cases hq10 : (qz != 10)
            · have ES : Hid (keepN (ts.take (k + 1)) = keepN (ts.take k)) := Lib.hid (by rw [HST.out, hq10]; simp)
              have oq2 : Hid (wq.ownsRow w110.heap.size 2 1 (.slice AK (keepN (ts.take k)).length cK) (keepN (ts.take (k + 1))).length (nums .i64 (keepN (ts.take (k + 1))))) := Lib.hid (by rw [ES.out]; exact oq.out)
              go_wp2
              go_roundw
              case rel => exact ⟨k + 1, by omega, by go_num, oq2, bq2⟩
              case measure => first | omega | (simp [intOf]; omega)
            · have ES : Hid (keepN (ts.take (k + 1)) = keepN (ts.take k) ++ [z]) := Lib.hid (by rw [HST.out, hq10]; simp)
              go_wp2_with (at_builtin; go_loud (refine wpList_app rfl _ _ _ rfl w110.heap.size Try.underlying24 hi hz0 hz1 hz2 rfl (by omega) rfl (oq.out.alloc _) rfl (Rd.lit wq #[.int .i64 z] _) (m := 1) rfl (nums_one .i64 [z]) (by omega) (by omega) (by simp; omega) ?_); intro v' w5 o5 g5 a5; obtain ⟨A5, c5, rfl⟩ := own_form o5)
              have gg := (World.grownBy_alloc wq (.cells #[.int .i64 z] 2) _).trans g5
              have oq2 : Hid (w5.ownsRow w110.heap.size 2 1 (.slice A5 ((keepN (ts.take k)).length + 1) c5) (keepN (ts.take (k + 1))).length (nums .i64 (keepN (ts.take (k + 1))))) := Lib.hid (by rw [ES.out]; exact own_app1 o5 rfl)
              have bq3 := Lib.hid (bq2.out.grown gg bq2.out.size (fun b hb => (oq.out.lt b hb).1))
              clear o5 g5 a5 gg
              go_roundw
              case rel => exact ⟨k + 1, by omega, by go_num, oq2, bq3⟩
              case measure => first | omega | (simp [intOf]; omega)
          · have e : ts.take k = ts := List.take_of_length_le (by omega)
            rw [e] at ho kl ⊢
            clear e
            obtain ⟨wo, hwo⟩ : ∃ wo : World, Hid (wo = wr) := ⟨_, Lib.hid rfl⟩
            rw [← hwo.out] at ho hbr sz ⊢
            clear hwo
            have o1 := Lib.hid (own_new wo 2 #[] 0 rfl (by omega))
            have b1 := Lib.hid ((Below.refl wo.heap.size wo).alloc (Nat.le_refl _) (.cells #[] 2))
            go_wp2
            go_loopw [12, 13] (fun v i wr => ∃ k : Nat, k ≤ (parasV ts).length ∧ i = .int .i64 k ∧ Hid (wr.ownsRow wo.heap.size 2 1 v (flatN (parasV ts) k).length (nums .i64 (flatN (parasV ts) k))) ∧ Hid (Below wo.heap.size wo wr)) (fun _ i _ => (parasV ts).length - (intOf i).toNat)
            case atStart => exact ⟨0, by omega, rfl, by rw [flatN_zero]; exact o1, b1⟩
            case round =>
              clear o1 b1
              obtain ⟨p, hp, rfl, hf, hb2⟩ := hrel
              have sz2 := hb2.out.size
              have hb3 := Lib.hid (below_on hbr.out hb2.out (Nat.le_refl _))
              have kS2 := kS.below hb3.out kS.lt
              have cS1 := kS2.cell 1 (u := .slice A2 (parasV ts).length c2) rfl
              have fl : (flatN (parasV ts) p).length ≤ 2000 := by have := flatN_len (parasV ts) p; omega
              obtain ⟨AF, cF, rfl⟩ := own_form hf.out
              by_cases hlt : p < (parasV ts).length
              · obtain ⟨b2, off2, c2', u2, e2, _, hc2, s2⟩ := (sP.below hb3.out (Nat.le_refl _)).at_ p hlt
                injection e2 with e21 e22 e23
                clear e22
                subst e21; subst e23
                have FS := Lib.hid (flatN_step (parasV ts) p hlt)
                have tn := total_nth_le (parasV ts) p hlt
                obtain ⟨ys, hys⟩ : ∃ ys, Hid (nthL (parasV ts) p = ys) := ⟨_, Lib.hid rfl⟩
                rw [hys.out] at s2 FS tn
                obtain ⟨A6, c6, rfl, r6⟩ := s2
                have R6 := Lib.hid r6
                clear r6
                go_wp2_with (at_builtin; go_loud (refine wpList_app rfl _ _ _ rfl wo.heap.size Try.underlying24 hi hz0 hz1 hz2 rfl (by omega) rfl hf.out rfl R6.out (by rw [nums_length, Nat.mul_one]) (nums_one _ _) (by omega) (by omega) sz2 ?_); intro v' w5 o5 g5 a5; obtain ⟨A5, c5, rfl⟩ := own_form o5)
                have hf2 : Hid (w5.ownsRow wo.heap.size 2 1 (.slice A5 ((flatN (parasV ts) p).length + ys.length) c5) (flatN (parasV ts) (p + 1)).length (nums .i64 (flatN (parasV ts) (p + 1)))) := Lib.hid (by rw [FS.out]; exact own_app o5 rfl)
                have hb4 := Lib.hid (hb2.out.grown g5 sz2 (fun b hb => (hf.out.lt b hb).1))
                clear o5 g5 a5
                go_roundw
                case rel => exact ⟨p + 1, by omega, by go_num, hf2, hb4⟩
                case measure => first | omega | (simp [intOf]; omega)
              · have e : flatN (parasV ts) p = keepN ts := by rw [flatN_all _ _ (by omega), PE.out]
                rw [e] at hf ⊢
                clear e fl
                have sA := Lib.hid (show Sees wr wr.heap.size .i64 (.slice AF (keepN ts).length cF) (keepN ts) from ⟨AF, cF, rfl, Rd.of hf.out⟩)
                have sB := Lib.hid (show Sees wr wr.heap.size .i64 (.slice AK (keepN ts).length cK) (keepN ts) from ⟨AK, cK, rfl, ((Rd.of ho.out).below hb2.out (Nat.le_refl _)).more sz2⟩)
                go_wp2_with fail
                refine (lwNums_same _ _ (keepN ts) wr _ _ sA.out sB.out (by omega)).mono ?_
                rintro e w9 ⟨rfl, n9, h9⟩
                have b9 := below_drawn h9
                clear h9
                go_wp2
                go_ret
                exact ⟨rfl, below_on (below_on HBW hb3.out (Nat.le_refl _)) b9 (Nat.le_refl _)⟩
      · have fS : (textF ts != 0) = true := by simpa using hS
        have cS0 := kS.cell 0 (u := .int .i64 (textF ts)) rfl
        clear hS
        go_wp2
        go_ret
        exact ⟨rfl, HBW⟩
end Go.Proofs.Ytmkpbfghnkmcgaa.fnParas
