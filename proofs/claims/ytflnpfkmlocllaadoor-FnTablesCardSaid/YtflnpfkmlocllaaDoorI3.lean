/- FnTables: the walk (laid by wip/bin/gentab.py). -/
import Derived.Test.YtflnpfkmlocllaaDoorI1
import Derived.Test.YtflnpfkmlocllaaDoorI2
import Derived.Laws.StructEq
import Derived.Deep.RegionHeld3
namespace Go.Proofs.YtflnpfkmlocllaaDoor.fnTables
open Go.RowKit

attribute [local go_sem] Oper.semAt_some
theorem wf_small {z : Int} (h0 : -2 ≤ z) (h1 : z ≤ 1114113) : (Lit.int .i64 z).wf = true := by
  have h1 : IntKind.i64.min = -9223372036854775808 := rfl
  have h2 : IntKind.i64.max = 9223372036854775807 := rfl
  simp only [Lit.wf, Bool.and_eq_true, decide_eq_true_eq, h1, h2]
  omega
theorem field_v (x : Value) (n : Int) (w : World) : (Instr.field 47 (.agg #[x, .int .i64 n]) 1).run Tryd.prog w = .ok (.int .i64 n) w := by simp [Instr.field, go_sem, asAgg]
attribute [local go_sem] field_v
theorem mirV_wf {x : Int} (h : mirC x = 0) : (Lit.int .i64 (mirV x)).wf = true := by
  cases hc : isChr x
  · rw [(mir_no hc).1] at h; omega
  · rw [(mir_yes hc).2]
    have := isChrR (mir_mir x hc).1
    exact wf_small (by omega) (by omega)
theorem mir_of_br {x : Int} (h : brC x = 0) : mirC x = 0 := by
  cases hc : isChr x
  · rw [(br_no hc).1] at h; omega
  · exact (mir_yes hc).1
set_option maxRecDepth 100000 in
set_option maxHeartbeats 8000000 in
theorem walk {w : World} (hT : Pairs w) (A : Option Addr) (zs : List Int) (c : Nat) (r : Rd w w.heap.size A (nums .u8 zs)) (hw : ∀ n ∈ zs, (Lit.int .u8 n).wf = true) :
    Calls Tryd.prog 4 #[.slice A zs.length c] w fun e w' => e = .returned (.bool true) ∧ Below w.heap.size w w' := by
  by_cases hl : 1048576 < zs.length
  · have d0 : decide (1048576 < zs.length) = true := by simp [hl]
    go_enter Tryd.func4, Tryd.ntmps4
    go_wp2_with fail
    refine (lwBig_any A zs.length c w).mono ?_
    rintro e w1 ⟨rfl, rfl⟩
    rw [d0]
    go_wp2
    go_ret
    exact ⟨rfl, Below.refl _ _⟩
  · have d0 : decide (1048576 < zs.length) = false := by simp [hl]
    have HB := Lib.hid (bytes_of hw)
    have zl : zs.length < 2000000 := by omega
    have R := r
    have T := hT
    clear hl r hT hw
    go_enter Tryd.func4, Tryd.ntmps4
    go_wp2_with fail
    refine (lwBig_any A zs.length c w).mono ?_
    rintro e w1 ⟨rfl, rfl⟩
    rw [d0]
    have HBW := Below.refl w.heap.size w
    go_wp2_with fail
    refine (drawMirrorOf_any A c zs w R HB.out zl).mono ?_
    rintro e w1 ⟨⟨x, rfl, x0, x1⟩, b1⟩
    replace R := R.on b1
    replace T := T.on b1
    replace HBW := below_on HBW b1 (Nat.le_refl _)
    clear b1
    have WX := Lib.hid (wf_small x0 x1)
    go_wp2_with fail
    refine (mirrorOf_val x w1 T WX.out).mono ?_
    rintro e w2 ⟨rfl, b2⟩
    replace R := R.on b2
    replace T := T.on b2
    replace HBW := below_on HBW b2 (Nat.le_refl _)
    clear b2
    have b3 := (Below.refl w2.heap.size w2).alloc (Nat.le_refl _) (.cells #[.int .i64 (mirC x), .int .i64 (mirV x)] 47)
    have kM := Blk.new w2 47 #[.int .i64 (mirC x), .int .i64 (mirV x)]
    replace R := R.on b3
    replace T := T.on b3
    replace HBW := below_on HBW b3 (Nat.le_refl _)
    clear b3
    go_wp2_with fail
    generalize hg3 : w2.alloc (.cells #[.int .i64 (mirC x), .int .i64 (mirV x)] 47) = w3 at *
    clear hg3
    refine (classOf_val x w3 WX.out).mono ?_
    rintro e w4 ⟨rfl, b4⟩
    replace R := R.on b4
    replace T := T.on b4
    replace kM := kM.below b4 kM.lt
    replace HBW := below_on HBW b4 (Nat.le_refl _)
    clear b4
    have b5 := (Below.refl w4.heap.size w4).alloc (Nat.le_refl _) (.cells #[.int .i64 (classC x), .int .i64 (classV x)] 47)
    have kK := Blk.new w4 47 #[.int .i64 (classC x), .int .i64 (classV x)]
    replace R := R.on b5
    replace T := T.on b5
    replace kM := kM.below b5 kM.lt
    replace HBW := below_on HBW b5 (Nat.le_refl _)
    clear b5
    go_wp2_with fail
    generalize hg5 : w4.alloc (.cells #[.int .i64 (classC x), .int .i64 (classV x)] 47) = w5 at *
    clear hg5
    refine (bracketOf_val x w5 T WX.out).mono ?_
    rintro e w6 ⟨rfl, b6⟩
    replace R := R.on b6
    replace T := T.on b6
    replace kM := kM.below b6 kM.lt
    replace kK := kK.below b6 kK.lt
    replace HBW := below_on HBW b6 (Nat.le_refl _)
    clear b6
    have b7 := (Below.refl w6.heap.size w6).alloc (Nat.le_refl _) (.cells #[.int .i64 (brC x), .bool (brO x), .int .i64 (brN x)] 50)
    have kB := Blk.new w6 50 #[.int .i64 (brC x), .bool (brO x), .int .i64 (brN x)]
    replace R := R.on b7
    replace T := T.on b7
    replace kM := kM.below b7 kM.lt
    replace kK := kK.below b7 kK.lt
    replace HBW := below_on HBW b7 (Nat.le_refl _)
    clear b7
    go_wp2_with fail
    generalize hg7 : w6.alloc (.cells #[.int .i64 (brC x), .bool (brO x), .int .i64 (brN x)] 50) = w7 at *
    clear hg7
    refine (drawFormOf_any A c zs w7 R HB.out zl).mono ?_
    rintro e w8 ⟨⟨l, b1, b2, rfl, l0, l1⟩, b8⟩
    replace R := R.on b8
    replace T := T.on b8
    replace kM := kM.below b8 kM.lt
    replace kK := kK.below b8 kK.lt
    replace kB := kB.below b8 kB.lt
    replace HBW := below_on HBW b8 (Nat.le_refl _)
    clear b8
    have WL := Lib.hid (wf_small l0 l1)
    go_wp2_with fail
    refine (formOf_val l b1 b2 w8 WL.out).mono ?_
    rintro e w9 ⟨rfl, b9⟩
    replace R := R.on b9
    replace T := T.on b9
    replace kM := kM.below b9 kM.lt
    replace kK := kK.below b9 kK.lt
    replace kB := kB.below b9 kB.lt
    replace HBW := below_on HBW b9 (Nat.le_refl _)
    clear b9
    have b10 := (Below.refl w9.heap.size w9).alloc (Nat.le_refl _) (.cells #[.int .i64 (formsC l), .int .i64 (formV l b1 b2)] 47)
    have kF := Blk.new w9 47 #[.int .i64 (formsC l), .int .i64 (formV l b1 b2)]
    replace R := R.on b10
    replace T := T.on b10
    replace kM := kM.below b10 kM.lt
    replace kK := kK.below b10 kK.lt
    replace kB := kB.below b10 kB.lt
    replace HBW := below_on HBW b10 (Nat.le_refl _)
    clear b10
    go_wp2_with fail
    generalize hg10 : w9.alloc (.cells #[.int .i64 (formsC l), .int .i64 (formV l b1 b2)] 47) = w10 at *
    clear hg10
    refine (formsOf_val l w10 WL.out).mono ?_
    rintro e w11 ⟨rfl, b11⟩
    replace R := R.on b11
    replace T := T.on b11
    replace kM := kM.below b11 kM.lt
    replace kK := kK.below b11 kK.lt
    replace kB := kB.below b11 kB.lt
    replace kF := kF.below b11 kF.lt
    replace HBW := below_on HBW b11 (Nat.le_refl _)
    clear b11
    have b12 := (Below.refl w11.heap.size w11).alloc (Nat.le_refl _) (.cells #[.int .i64 (formsC l), .int .i64 (formsV l)] 47)
    have kN := Blk.new w11 47 #[.int .i64 (formsC l), .int .i64 (formsV l)]
    replace R := R.on b12
    replace T := T.on b12
    replace kM := kM.below b12 kM.lt
    replace kK := kK.below b12 kK.lt
    replace kB := kB.below b12 kB.lt
    replace kF := kF.below b12 kF.lt
    replace HBW := below_on HBW b12 (Nat.le_refl _)
    clear b12
    go_wp2_with fail
    generalize hg12 : w11.alloc (.cells #[.int .i64 (formsC l), .int .i64 (formsV l)] 47) = w12 at *
    clear hg12
    refine (drawLigatureOf_any A c zs w12 R HB.out zl).mono ?_
    rintro e w13 ⟨⟨a, j, rfl, a0, a1⟩, b13⟩
    replace R := R.on b13
    replace T := T.on b13
    replace kM := kM.below b13 kM.lt
    replace kK := kK.below b13 kK.lt
    replace kB := kB.below b13 kB.lt
    replace kF := kF.below b13 kF.lt
    replace kN := kN.below b13 kN.lt
    replace HBW := below_on HBW b13 (Nat.le_refl _)
    clear b13
    have WA := Lib.hid (wf_small (by omega) (by omega) : (Lit.int .i64 a).wf = true)
    go_wp2_with fail
    refine (ligatureOf_val a j w13 WA.out).mono ?_
    rintro e w14 ⟨rfl, b14⟩
    replace R := R.on b14
    replace T := T.on b14
    replace kM := kM.below b14 kM.lt
    replace kK := kK.below b14 kK.lt
    replace kB := kB.below b14 kB.lt
    replace kF := kF.below b14 kF.lt
    replace kN := kN.below b14 kN.lt
    replace HBW := below_on HBW b14 (Nat.le_refl _)
    clear b14
    have b15 := (Below.refl w14.heap.size w14).alloc (Nat.le_refl _) (.cells #[.int .i64 (ligC a j), .int .i64 (ligV a j)] 47)
    have kG := Blk.new w14 47 #[.int .i64 (ligC a j), .int .i64 (ligV a j)]
    replace R := R.on b15
    replace T := T.on b15
    replace kM := kM.below b15 kM.lt
    replace kK := kK.below b15 kK.lt
    replace kB := kB.below b15 kB.lt
    replace kF := kF.below b15 kF.lt
    replace kN := kN.below b15 kN.lt
    replace HBW := below_on HBW b15 (Nat.le_refl _)
    clear b15
    go_wp2_with fail
    generalize hg15 : w14.alloc (.cells #[.int .i64 (ligC a j), .int .i64 (ligV a j)] 47) = w15 at *
    clear hg15
    refine (drawIsRemoved_any A c zs w15 R HB.out zl).mono ?_
    rintro e w16 ⟨⟨y, rfl, y0, y1⟩, b16⟩
    replace R := R.on b16
    replace T := T.on b16
    replace kM := kM.below b16 kM.lt
    replace kK := kK.below b16 kK.lt
    replace kB := kB.below b16 kB.lt
    replace kF := kF.below b16 kF.lt
    replace kN := kN.below b16 kN.lt
    replace kG := kG.below b16 kG.lt
    replace HBW := below_on HBW b16 (Nat.le_refl _)
    clear b16
    have WY := Lib.hid (wf_small (by omega) (by omega) : (Lit.int .i64 y).wf = true)
    go_wp2_with fail
    have bz : Below w16.heap.size w16 w16.drew := ⟨rfl, rfl, rfl, Nat.le_refl _, fun _ _ => rfl⟩
    replace R := R.on bz
    replace T := T.on bz
    replace kM := kM.below bz kM.lt
    replace kK := kK.below bz kK.lt
    replace kB := kB.below bz kB.lt
    replace kF := kF.below bz kF.lt
    replace kN := kN.below bz kN.lt
    replace kG := kG.below bz kG.lt
    replace HBW := below_on HBW bz (Nat.le_refl _)
    clear bz
    go_region_held3 (fun w' => w'.cell? ⟨w2.heap.size, 0, none⟩ = some (.int .i64 (mirC x)) ∧ w'.cell? ⟨w2.heap.size, 1, none⟩ = some (.int .i64 (mirV x)) ∧ w'.cell? ⟨w4.heap.size, 0, none⟩ = some (.int .i64 (classC x)) ∧ w'.cell? ⟨w4.heap.size, 1, none⟩ = some (.int .i64 (classV x)) ∧ w'.cell? ⟨w6.heap.size, 0, none⟩ = some (.int .i64 (brC x)) ∧ w'.cell? ⟨w6.heap.size, 1, none⟩ = some (.bool (brO x)) ∧ w'.cell? ⟨w6.heap.size, 2, none⟩ = some (.int .i64 (brN x)) ∧ w'.cell? ⟨w9.heap.size, 0, none⟩ = some (.int .i64 (formsC l)) ∧ w'.cell? ⟨w9.heap.size, 1, none⟩ = some (.int .i64 (formV l b1 b2)) ∧ w'.cell? ⟨w11.heap.size, 0, none⟩ = some (.int .i64 (formsC l)) ∧ w'.cell? ⟨w11.heap.size, 1, none⟩ = some (.int .i64 (formsV l)) ∧ w'.cell? ⟨w14.heap.size, 0, none⟩ = some (.int .i64 (ligC a j)) ∧ w'.cell? ⟨w14.heap.size, 1, none⟩ = some (.int .i64 (ligV a j))) (exact ⟨kM.cell 0 rfl, kM.cell 1 rfl, kK.cell 0 rfl, kK.cell 1 rfl, kB.cell 0 rfl, kB.cell 1 rfl, kB.cell 2 rfl, kF.cell 0 rfl, kF.cell 1 rfl, kN.cell 0 rfl, kN.cell 1 rfl, kG.cell 0 rfl, kG.cell 1 rfl⟩) (first
      | (go_at_call 39; refine (specMirrorOf_val x _ WX.out).mono ?_; rintro e w101 ⟨rfl, b101⟩; have qb101 : Below w16.drew.heap.size w16.drew w101 := ⟨b101.os, b101.tape, b101.output, b101.size, b101.block⟩; replace R := R.on qb101; replace T := T.on qb101; replace kM := kM.below qb101 kM.lt; replace kK := kK.below qb101 kK.lt; replace kB := kB.below qb101 kB.lt; replace kF := kF.below qb101 kF.lt; replace kN := kN.below qb101 kN.lt; replace kG := kG.below qb101 kG.lt; replace HBW := below_on HBW qb101 (Nat.le_refl _); clear b101 qb101)
      | (go_at_call 40; refine (specClassOf_val x _ WX.out).mono ?_; rintro e w102 ⟨rfl, b102⟩; have qb102 : Below w101.heap.size w101 w102 := ⟨b102.os, b102.tape, b102.output, b102.size, b102.block⟩; replace R := R.on qb102; replace T := T.on qb102; replace kM := kM.below qb102 kM.lt; replace kK := kK.below qb102 kK.lt; replace kB := kB.below qb102 kB.lt; replace kF := kF.below qb102 kF.lt; replace kN := kN.below qb102 kN.lt; replace kG := kG.below qb102 kG.lt; replace HBW := below_on HBW qb102 (Nat.le_refl _); clear b102 qb102)
      | (go_at_call 41; refine (specBracketOf_val x _ WX.out).mono ?_; rintro e w103 ⟨rfl, b103⟩; have qb103 : Below w102.heap.size w102 w103 := ⟨b103.os, b103.tape, b103.output, b103.size, b103.block⟩; replace R := R.on qb103; replace T := T.on qb103; replace kM := kM.below qb103 kM.lt; replace kK := kK.below qb103 kK.lt; replace kB := kB.below qb103 kB.lt; replace kF := kF.below qb103 kF.lt; replace kN := kN.below qb103 kN.lt; replace kG := kG.below qb103 kG.lt; replace HBW := below_on HBW qb103 (Nat.le_refl _); clear b103 qb103)
      | (go_at_call 42; refine (specFormOf_val l b1 b2 _ WL.out).mono ?_; rintro e w104 ⟨rfl, b104⟩; have qb104 : Below w103.heap.size w103 w104 := ⟨b104.os, b104.tape, b104.output, b104.size, b104.block⟩; replace R := R.on qb104; replace T := T.on qb104; replace kM := kM.below qb104 kM.lt; replace kK := kK.below qb104 kK.lt; replace kB := kB.below qb104 kB.lt; replace kF := kF.below qb104 kF.lt; replace kN := kN.below qb104 kN.lt; replace kG := kG.below qb104 kG.lt; replace HBW := below_on HBW qb104 (Nat.le_refl _); clear b104 qb104)
      | (go_at_call 43; refine (specFormsOf_val l _ WL.out).mono ?_; rintro e w105 ⟨rfl, b105⟩; have qb105 : Below w104.heap.size w104 w105 := ⟨b105.os, b105.tape, b105.output, b105.size, b105.block⟩; replace R := R.on qb105; replace T := T.on qb105; replace kM := kM.below qb105 kM.lt; replace kK := kK.below qb105 kK.lt; replace kB := kB.below qb105 kB.lt; replace kF := kF.below qb105 kF.lt; replace kN := kN.below qb105 kN.lt; replace kG := kG.below qb105 kG.lt; replace HBW := below_on HBW qb105 (Nat.le_refl _); clear b105 qb105)
      | (go_at_call 44; refine (specLigatureOf_val a j _ WA.out).mono ?_; rintro e w106 ⟨rfl, b106⟩; have qb106 : Below w105.heap.size w105 w106 := ⟨b106.os, b106.tape, b106.output, b106.size, b106.block⟩; replace R := R.on qb106; replace T := T.on qb106; replace kM := kM.below qb106 kM.lt; replace kK := kK.below qb106 kK.lt; replace kB := kB.below qb106 kB.lt; replace kF := kF.below qb106 kF.lt; replace kN := kN.below qb106 kN.lt; replace kG := kG.below qb106 kG.lt; replace HBW := below_on HBW qb106 (Nat.le_refl _); clear b106 qb106)
      | (go_at_call 45; refine (isRemoved_val y _ WY.out).mono ?_; rintro e w107 ⟨rfl, b107⟩; have qb107 : Below w106.heap.size w106 w107 := ⟨b107.os, b107.tape, b107.output, b107.size, b107.block⟩; replace R := R.on qb107; replace T := T.on qb107; replace kM := kM.below qb107 kM.lt; replace kK := kK.below qb107 kK.lt; replace kB := kB.below qb107 kB.lt; replace kF := kF.below qb107 kF.lt; replace kN := kN.below qb107 kN.lt; replace kG := kG.below qb107 kG.lt; replace HBW := below_on HBW qb107 (Nat.le_refl _); clear b107 qb107)
      | (go_at_call 46; refine (specIsRemoved_val y _ WY.out).mono ?_; rintro e w108 ⟨rfl, b108⟩; have qb108 : Below w107.heap.size w107 w108 := ⟨b108.os, b108.tape, b108.output, b108.size, b108.block⟩; replace R := R.on qb108; replace T := T.on qb108; replace kM := kM.below qb108 kM.lt; replace kK := kK.below qb108 kK.lt; replace kB := kB.below qb108 kB.lt; replace kF := kF.below qb108 kF.lt; replace kN := kN.below qb108 kN.lt; replace kG := kG.below qb108 kG.lt; replace HBW := below_on HBW qb108 (Nat.le_refl _); clear b108 qb108)
      | (go_at_call 47; refine (isShown_val x _ WX.out).mono ?_; rintro e w109 ⟨rfl, b109⟩; have qb109 : Below w108.heap.size w108 w109 := ⟨b109.os, b109.tape, b109.output, b109.size, b109.block⟩; replace R := R.on qb109; replace T := T.on qb109; replace kM := kM.below qb109 kM.lt; replace kK := kK.below qb109 kK.lt; replace kB := kB.below qb109 kB.lt; replace kF := kF.below qb109 kF.lt; replace kN := kN.below qb109 kN.lt; replace kG := kG.below qb109 kG.lt; replace HBW := below_on HBW qb109 (Nat.le_refl _); clear b109 qb109)
      | (go_at_call 48; refine (specIsShown_val x _ WX.out).mono ?_; rintro e w110 ⟨rfl, b110⟩; have qb110 : Below w109.heap.size w109 w110 := ⟨b110.os, b110.tape, b110.output, b110.size, b110.block⟩; replace R := R.on qb110; replace T := T.on qb110; replace kM := kM.below qb110 kM.lt; replace kK := kK.below qb110 kK.lt; replace kB := kB.below qb110 kB.lt; replace kF := kF.below qb110 kF.lt; replace kN := kN.below qb110 kN.lt; replace kG := kG.below qb110 kG.lt; replace HBW := below_on HBW qb110 (Nat.le_refl _); clear b110 qb110)
      )
    obtain ⟨v0, v1⟩ := classV_range x
    clear x0 x1 l0 l1 a0 a1 y0 y1
    by_cases hM : mirC x = 0
    · have fM : (mirC x == 0) = true := by simp [hM]
      by_cases hB : brC x = 0
      · have fB : (brC x == 0) = true := by simp [hB]
        obtain ⟨u1, u2, u3, u4⟩ := tab_br hB
        have U1 := Lib.hid u1
        have U2 := Lib.hid u2
        have U3 := Lib.hid u3
        have U4 := Lib.hid u4
        clear hB u1 u2 u3 u4
        obtain ⟨t1, t2⟩ := tab_mir hM
        have WMV := Lib.hid (mirV_wf hM)
        clear hM
        have c1 := kM.cell 0 (u := .int .i64 (mirC x)) rfl
        have c2 := kM.cell 1 (u := .int .i64 (mirV x)) rfl
        have c3 := kK.cell 1 (u := .int .i64 (classV x)) rfl
        have c4 := kB.cell 0 (u := .int .i64 (brC x)) rfl
        have c5 := kB.cell 1 (u := .bool (brO x)) rfl
        have c6 := kB.cell 2 (u := .int .i64 (brN x)) rfl
        go_wp2_with fail
        refine (mirrorOf_val (mirV x) w110 T WMV.out).mono ?_
        rintro e w200 ⟨rfl, b200⟩
        rw [t1, t2]
        clear t1 t2 c1 c2 c3 c4 c5 c6
        replace R := R.on b200
        replace T := T.on b200
        replace kM := kM.below b200 kM.lt
        replace kK := kK.below b200 kK.lt
        replace kB := kB.below b200 kB.lt
        replace kF := kF.below b200 kF.lt
        replace kN := kN.below b200 kN.lt
        replace kG := kG.below b200 kG.lt
        replace HBW := below_on HBW b200 (Nat.le_refl _)
        clear b200
        have c7 := kM.cell 0 (u := .int .i64 (mirC x)) rfl
        have c8 := kM.cell 1 (u := .int .i64 (mirV x)) rfl
        have c9 := kK.cell 1 (u := .int .i64 (classV x)) rfl
        have c10 := kB.cell 0 (u := .int .i64 (brC x)) rfl
        have c11 := kB.cell 1 (u := .bool (brO x)) rfl
        have c12 := kB.cell 2 (u := .int .i64 (brN x)) rfl
        go_wp2_with fail
        refine (bracketOf_val (mirV x) w200 T WMV.out).mono ?_
        rintro e w201 ⟨rfl, b201⟩
        rw [U1.out, U2.out, U3.out]
        clear c7 c8 c9 c10 c11 c12
        replace R := R.on b201
        replace T := T.on b201
        replace kM := kM.below b201 kM.lt
        replace kK := kK.below b201 kK.lt
        replace kB := kB.below b201 kB.lt
        replace kF := kF.below b201 kF.lt
        replace kN := kN.below b201 kN.lt
        replace kG := kG.below b201 kG.lt
        replace HBW := below_on HBW b201 (Nat.le_refl _)
        clear b201
        have b202 := (Below.refl w201.heap.size w201).alloc (Nat.le_refl _) (.cells #[.int .i64 0, .bool (!brO x), .int .i64 (brN x)] 50)
        have kP := Blk.new w201 50 #[.int .i64 0, .bool (!brO x), .int .i64 (brN x)]
        replace R := R.on b202
        replace T := T.on b202
        replace kM := kM.below b202 kM.lt
        replace kK := kK.below b202 kK.lt
        replace kB := kB.below b202 kB.lt
        replace kF := kF.below b202 kF.lt
        replace kN := kN.below b202 kN.lt
        replace kG := kG.below b202 kG.lt
        replace HBW := below_on HBW b202 (Nat.le_refl _)
        clear b202
        have HK := kK
        rw [U4.out] at HK
        have eO : ((!brO x) == brO x) = false := by cases brO x <;> rfl
        have eN : (brN x != brN x) = false := by simp
        have c13 := HK.cell 1 (u := .int .i64 13) rfl
        have c14 := kB.cell 1 (u := .bool (brO x)) rfl
        have c15 := kB.cell 2 (u := .int .i64 (brN x)) rfl
        have c16 := kP.cell 0 (u := .int .i64 0) rfl
        have c17 := kP.cell 1 (u := .bool (!brO x)) rfl
        have c18 := kP.cell 2 (u := .int .i64 (brN x)) rfl
        go_wp2_with fail
        clear c13 c14 c15 c16 c17 c18 kP HK
        generalize hg202 : w201.alloc (.cells #[.int .i64 0, .bool (!brO x), .int .i64 (brN x)] 50) = w202 at *
        clear hg202
        by_cases hG : ligC a j = 0
        · have fG : (ligC a j == 0) = true := by simp [hG]
          have eG : (ligV a (!j) == ligV a j) = false := beq_eq_false_iff_ne.2 (tab_lig hG)
          clear hG
          have bz : Below w202.heap.size w202 w202.drew := ⟨rfl, rfl, rfl, Nat.le_refl _, fun _ _ => rfl⟩
          replace R := R.on bz
          replace T := T.on bz
          replace kM := kM.below bz kM.lt
          replace kK := kK.below bz kK.lt
          replace kB := kB.below bz kB.lt
          replace kF := kF.below bz kF.lt
          replace kN := kN.below bz kN.lt
          replace kG := kG.below bz kG.lt
          replace HBW := below_on HBW bz (Nat.le_refl _)
          clear bz
          go_region_held3 (fun w' => w'.cell? ⟨w14.heap.size, 0, none⟩ = some (.int .i64 (ligC a j)) ∧ w'.cell? ⟨w14.heap.size, 1, none⟩ = some (.int .i64 (ligV a j))) (exact ⟨kG.cell 0 rfl, kG.cell 1 rfl⟩) (first
            | (go_at_call 37; refine (ligatureOf_val a (!j) _ WA.out).mono ?_; rintro e w300 ⟨rfl, bg⟩; have qg : Below w202.drew.heap.size w202.drew w300 := ⟨bg.os, bg.tape, bg.output, bg.size, bg.block⟩; replace R := R.on qg; replace T := T.on qg; replace kM := kM.below qg kM.lt; replace kK := kK.below qg kK.lt; replace kB := kB.below qg kB.lt; replace kF := kF.below qg kF.lt; replace kN := kN.below qg kN.lt; replace kG := kG.below qg kG.lt; replace HBW := below_on HBW qg (Nat.le_refl _); clear bg qg))
          have c19 := kF.cell 0 (u := .int .i64 (formsC l)) rfl
          have c20 := kF.cell 1 (u := .int .i64 (formV l b1 b2)) rfl
          have c21 := kN.cell 1 (u := .int .i64 (formsV l)) rfl
          by_cases hF : formsC l = 0
          · have fF : (formsC l != 0) = false := by simp [hF]
            obtain ⟨g1, g2, g3⟩ := forms_bounds l b1 b2 hF
            clear hF
            go_wp2
            go_ret
            exact ⟨rbool (by simp <;> omega), HBW⟩
          · have fF : (formsC l != 0) = true := by simpa using hF
            clear hF
            go_wp2
            go_ret
            exact ⟨rfl, HBW⟩
        · have fG : (ligC a j == 0) = false := beq_eq_false_iff_ne.2 hG
          clear hG
          have c22 := kG.cell 0 (u := .int .i64 (ligC a j)) rfl
          have c23 := kG.cell 1 (u := .int .i64 (ligV a j)) rfl
          go_quiet (fail)
          have bz : Below w202.heap.size w202 (w202.drewN nq) := ⟨rfl, rfl, rfl, Nat.le_refl _, fun _ _ => rfl⟩
          replace R := R.on bz
          replace T := T.on bz
          replace kM := kM.below bz kM.lt
          replace kK := kK.below bz kK.lt
          replace kB := kB.below bz kB.lt
          replace kF := kF.below bz kF.lt
          replace kN := kN.below bz kN.lt
          replace kG := kG.below bz kG.lt
          replace HBW := below_on HBW bz (Nat.le_refl _)
          clear bz
          clear c22 c23
          generalize hgq : w202.drewN nq = w301 at *
          clear hgq
          have c24 := kF.cell 0 (u := .int .i64 (formsC l)) rfl
          have c25 := kF.cell 1 (u := .int .i64 (formV l b1 b2)) rfl
          have c26 := kN.cell 1 (u := .int .i64 (formsV l)) rfl
          by_cases hF : formsC l = 0
          · have fF : (formsC l != 0) = false := by simp [hF]
            obtain ⟨g1, g2, g3⟩ := forms_bounds l b1 b2 hF
            clear hF
            go_wp2
            go_ret
            exact ⟨rbool (by simp <;> omega), HBW⟩
          · have fF : (formsC l != 0) = true := by simpa using hF
            clear hF
            go_wp2
            go_ret
            exact ⟨rfl, HBW⟩
      · have fB : (brC x == 0) = false := beq_eq_false_iff_ne.2 hB
        clear hB
        obtain ⟨t1, t2⟩ := tab_mir hM
        have WMV := Lib.hid (mirV_wf hM)
        clear hM
        have c27 := kM.cell 0 (u := .int .i64 (mirC x)) rfl
        have c28 := kM.cell 1 (u := .int .i64 (mirV x)) rfl
        have c29 := kK.cell 1 (u := .int .i64 (classV x)) rfl
        have c30 := kB.cell 0 (u := .int .i64 (brC x)) rfl
        have c31 := kB.cell 1 (u := .bool (brO x)) rfl
        have c32 := kB.cell 2 (u := .int .i64 (brN x)) rfl
        go_wp2_with fail
        refine (mirrorOf_val (mirV x) w110 T WMV.out).mono ?_
        rintro e w200 ⟨rfl, b200⟩
        rw [t1, t2]
        clear t1 t2 c27 c28 c29 c30 c31 c32
        replace R := R.on b200
        replace T := T.on b200
        replace kM := kM.below b200 kM.lt
        replace kK := kK.below b200 kK.lt
        replace kB := kB.below b200 kB.lt
        replace kF := kF.below b200 kF.lt
        replace kN := kN.below b200 kN.lt
        replace kG := kG.below b200 kG.lt
        replace HBW := below_on HBW b200 (Nat.le_refl _)
        clear b200
        have c33 := kM.cell 0 (u := .int .i64 (mirC x)) rfl
        have c34 := kM.cell 1 (u := .int .i64 (mirV x)) rfl
        have c35 := kK.cell 1 (u := .int .i64 (classV x)) rfl
        have c36 := kB.cell 0 (u := .int .i64 (brC x)) rfl
        have c37 := kB.cell 1 (u := .bool (brO x)) rfl
        have c38 := kB.cell 2 (u := .int .i64 (brN x)) rfl
        go_wp2_with fail
        clear c33 c34 c35 c36 c37 c38
        by_cases hG : ligC a j = 0
        · have fG : (ligC a j == 0) = true := by simp [hG]
          have eG : (ligV a (!j) == ligV a j) = false := beq_eq_false_iff_ne.2 (tab_lig hG)
          clear hG
          have bz : Below w200.heap.size w200 w200.drew := ⟨rfl, rfl, rfl, Nat.le_refl _, fun _ _ => rfl⟩
          replace R := R.on bz
          replace T := T.on bz
          replace kM := kM.below bz kM.lt
          replace kK := kK.below bz kK.lt
          replace kB := kB.below bz kB.lt
          replace kF := kF.below bz kF.lt
          replace kN := kN.below bz kN.lt
          replace kG := kG.below bz kG.lt
          replace HBW := below_on HBW bz (Nat.le_refl _)
          clear bz
          go_region_held3 (fun w' => w'.cell? ⟨w14.heap.size, 0, none⟩ = some (.int .i64 (ligC a j)) ∧ w'.cell? ⟨w14.heap.size, 1, none⟩ = some (.int .i64 (ligV a j))) (exact ⟨kG.cell 0 rfl, kG.cell 1 rfl⟩) (first
            | (go_at_call 37; refine (ligatureOf_val a (!j) _ WA.out).mono ?_; rintro e w300 ⟨rfl, bg⟩; have qg : Below w200.drew.heap.size w200.drew w300 := ⟨bg.os, bg.tape, bg.output, bg.size, bg.block⟩; replace R := R.on qg; replace T := T.on qg; replace kM := kM.below qg kM.lt; replace kK := kK.below qg kK.lt; replace kB := kB.below qg kB.lt; replace kF := kF.below qg kF.lt; replace kN := kN.below qg kN.lt; replace kG := kG.below qg kG.lt; replace HBW := below_on HBW qg (Nat.le_refl _); clear bg qg))
          have c39 := kF.cell 0 (u := .int .i64 (formsC l)) rfl
          have c40 := kF.cell 1 (u := .int .i64 (formV l b1 b2)) rfl
          have c41 := kN.cell 1 (u := .int .i64 (formsV l)) rfl
          by_cases hF : formsC l = 0
          · have fF : (formsC l != 0) = false := by simp [hF]
            obtain ⟨g1, g2, g3⟩ := forms_bounds l b1 b2 hF
            clear hF
            go_wp2
            go_ret
            exact ⟨rbool (by simp <;> omega), HBW⟩
          · have fF : (formsC l != 0) = true := by simpa using hF
            clear hF
            go_wp2
            go_ret
            exact ⟨rfl, HBW⟩
        · have fG : (ligC a j == 0) = false := beq_eq_false_iff_ne.2 hG
          clear hG
          have c42 := kG.cell 0 (u := .int .i64 (ligC a j)) rfl
          have c43 := kG.cell 1 (u := .int .i64 (ligV a j)) rfl
          go_quiet (fail)
          have bz : Below w200.heap.size w200 (w200.drewN nq) := ⟨rfl, rfl, rfl, Nat.le_refl _, fun _ _ => rfl⟩
          replace R := R.on bz
          replace T := T.on bz
          replace kM := kM.below bz kM.lt
          replace kK := kK.below bz kK.lt
          replace kB := kB.below bz kB.lt
          replace kF := kF.below bz kF.lt
          replace kN := kN.below bz kN.lt
          replace kG := kG.below bz kG.lt
          replace HBW := below_on HBW bz (Nat.le_refl _)
          clear bz
          clear c42 c43
          generalize hgq : w200.drewN nq = w301 at *
          clear hgq
          have c44 := kF.cell 0 (u := .int .i64 (formsC l)) rfl
          have c45 := kF.cell 1 (u := .int .i64 (formV l b1 b2)) rfl
          have c46 := kN.cell 1 (u := .int .i64 (formsV l)) rfl
          by_cases hF : formsC l = 0
          · have fF : (formsC l != 0) = false := by simp [hF]
            obtain ⟨g1, g2, g3⟩ := forms_bounds l b1 b2 hF
            clear hF
            go_wp2
            go_ret
            exact ⟨rbool (by simp <;> omega), HBW⟩
          · have fF : (formsC l != 0) = true := by simpa using hF
            clear hF
            go_wp2
            go_ret
            exact ⟨rfl, HBW⟩
    · have fM : (mirC x == 0) = false := beq_eq_false_iff_ne.2 hM
      have hB : brC x ≠ 0 := fun e => hM (mir_of_br e)
      have fB : (brC x == 0) = false := beq_eq_false_iff_ne.2 hB
      clear hM hB
      have c47 := kM.cell 0 (u := .int .i64 (mirC x)) rfl
      have c48 := kM.cell 1 (u := .int .i64 (mirV x)) rfl
      have c49 := kK.cell 1 (u := .int .i64 (classV x)) rfl
      have c50 := kB.cell 0 (u := .int .i64 (brC x)) rfl
      have c51 := kB.cell 1 (u := .bool (brO x)) rfl
      have c52 := kB.cell 2 (u := .int .i64 (brN x)) rfl
      go_wp2_with fail
      clear c47 c48 c49 c50 c51 c52
      by_cases hG : ligC a j = 0
      · have fG : (ligC a j == 0) = true := by simp [hG]
        have eG : (ligV a (!j) == ligV a j) = false := beq_eq_false_iff_ne.2 (tab_lig hG)
        clear hG
        have bz : Below w110.heap.size w110 w110.drew := ⟨rfl, rfl, rfl, Nat.le_refl _, fun _ _ => rfl⟩
        replace R := R.on bz
        replace T := T.on bz
        replace kM := kM.below bz kM.lt
        replace kK := kK.below bz kK.lt
        replace kB := kB.below bz kB.lt
        replace kF := kF.below bz kF.lt
        replace kN := kN.below bz kN.lt
        replace kG := kG.below bz kG.lt
        replace HBW := below_on HBW bz (Nat.le_refl _)
        clear bz
        go_region_held3 (fun w' => w'.cell? ⟨w14.heap.size, 0, none⟩ = some (.int .i64 (ligC a j)) ∧ w'.cell? ⟨w14.heap.size, 1, none⟩ = some (.int .i64 (ligV a j))) (exact ⟨kG.cell 0 rfl, kG.cell 1 rfl⟩) (first
          | (go_at_call 37; refine (ligatureOf_val a (!j) _ WA.out).mono ?_; rintro e w300 ⟨rfl, bg⟩; have qg : Below w110.drew.heap.size w110.drew w300 := ⟨bg.os, bg.tape, bg.output, bg.size, bg.block⟩; replace R := R.on qg; replace T := T.on qg; replace kM := kM.below qg kM.lt; replace kK := kK.below qg kK.lt; replace kB := kB.below qg kB.lt; replace kF := kF.below qg kF.lt; replace kN := kN.below qg kN.lt; replace kG := kG.below qg kG.lt; replace HBW := below_on HBW qg (Nat.le_refl _); clear bg qg))
        have c53 := kF.cell 0 (u := .int .i64 (formsC l)) rfl
        have c54 := kF.cell 1 (u := .int .i64 (formV l b1 b2)) rfl
        have c55 := kN.cell 1 (u := .int .i64 (formsV l)) rfl
        by_cases hF : formsC l = 0
        · have fF : (formsC l != 0) = false := by simp [hF]
          obtain ⟨g1, g2, g3⟩ := forms_bounds l b1 b2 hF
          clear hF
          go_wp2
          go_ret
          exact ⟨rbool (by simp <;> omega), HBW⟩
        · have fF : (formsC l != 0) = true := by simpa using hF
          clear hF
          go_wp2
          go_ret
          exact ⟨rfl, HBW⟩
      · have fG : (ligC a j == 0) = false := beq_eq_false_iff_ne.2 hG
        clear hG
        have c56 := kG.cell 0 (u := .int .i64 (ligC a j)) rfl
        have c57 := kG.cell 1 (u := .int .i64 (ligV a j)) rfl
        go_quiet (fail)
        have bz : Below w110.heap.size w110 (w110.drewN nq) := ⟨rfl, rfl, rfl, Nat.le_refl _, fun _ _ => rfl⟩
        replace R := R.on bz
        replace T := T.on bz
        replace kM := kM.below bz kM.lt
        replace kK := kK.below bz kK.lt
        replace kB := kB.below bz kB.lt
        replace kF := kF.below bz kF.lt
        replace kN := kN.below bz kN.lt
        replace kG := kG.below bz kG.lt
        replace HBW := below_on HBW bz (Nat.le_refl _)
        clear bz
        clear c56 c57
        generalize hgq : w110.drewN nq = w301 at *
        clear hgq
        have c58 := kF.cell 0 (u := .int .i64 (formsC l)) rfl
        have c59 := kF.cell 1 (u := .int .i64 (formV l b1 b2)) rfl
        have c60 := kN.cell 1 (u := .int .i64 (formsV l)) rfl
        by_cases hF : formsC l = 0
        · have fF : (formsC l != 0) = false := by simp [hF]
          obtain ⟨g1, g2, g3⟩ := forms_bounds l b1 b2 hF
          clear hF
          go_wp2
          go_ret
          exact ⟨rbool (by simp <;> omega), HBW⟩
        · have fF : (formsC l != 0) = true := by simpa using hF
          clear hF
          go_wp2
          go_ret
          exact ⟨rfl, HBW⟩
end Go.Proofs.YtflnpfkmlocllaaDoor.fnTables
