/- Chapter 6: the program's turns, and what it answers. -/
import Derived.Test.YtcfnhjpmihngdaaGreatY42
import Derived.Test.YtcfnhjpmihngdaaGreatY08
namespace Go.Proofs.YtcfnhjpmihngdaaGreat
open Go.RowKit Go.Shelf

section
variable {w : World} {lo g : Nat} {A : Option Addr} {n c : Nat} {cs : List Int} {s : Int}
theorem turnMark_any (h : WkO w 132 2 lo g A n c cs s) (hl : n ≤ 600) :
    Calls Tryz.prog 111 #[.pointer (some ⟨g, 0, none⟩), .agg #[.slice (some ⟨w.heap.size, 0, none⟩) 1 1, .func (.func 112) #[.pointer (some ⟨g, 0, none⟩)] #[]]] (w.alloc (.cells #[.int .i64 8] 2)) fun e w' =>
      (e = .returned (.tuple #[]) ∧ WkO w' 132 2 lo g A n c (doStep [8] (fMark s) cs) s) ∧ Out lo (g + 1) w w' := by
  have hc := (own_cap h.row).1
  have b0 := (Below.refl w.heap.size w).alloc (Nat.le_refl _) (.cells #[.int .i64 8] 2)
  refine (takeMark_any [8] (fMark s) (h.below b0) (Blk.new w _ _) h.blk.lt hl (by decide) (fun w' cs' k h1 h2 h3 h4 => mark_any h1 (by omega) k h4)).mono ?_
  rintro e w1 ⟨⟨rfl, h1⟩, o1⟩
  exact ⟨⟨rfl, h1⟩, (Out.of_below (lo := lo) (hi := g + 1) b0).trans o1⟩
theorem turnNumber_any (h : WkO w 132 2 lo g A n c cs s) (hl : n ≤ 600) :
    Calls Tryz.prog 111 #[.pointer (some ⟨g, 0, none⟩), .agg #[.slice (some ⟨w.heap.size, 0, none⟩) 1 1, .func (.func 113) #[.pointer (some ⟨g, 0, none⟩)] #[]]] (w.alloc (.cells #[.int .i64 3] 2)) fun e w' =>
      (e = .returned (.tuple #[]) ∧ WkO w' 132 2 lo g A n c (doStep [3] (fNum s) cs) s) ∧ Out lo (g + 1) w w' := by
  have hc := (own_cap h.row).1
  have b0 := (Below.refl w.heap.size w).alloc (Nat.le_refl _) (.cells #[.int .i64 3] 2)
  refine (takeNumber_any [3] (fNum s) (h.below b0) (Blk.new w _ _) h.blk.lt hl (by decide) (fun w' cs' k h1 h2 h3 h4 => number_any h1 h2 (by omega) (by omega) k h4)).mono ?_
  rintro e w1 ⟨⟨rfl, h1⟩, o1⟩
  exact ⟨⟨rfl, h1⟩, (Out.of_below (lo := lo) (hi := g + 1) b0).trans o1⟩
theorem turnLetter_any (h : WkO w 132 2 lo g A n c cs s) (hl : n ≤ 600) :
    Calls Tryz.prog 111 #[.pointer (some ⟨g, 0, none⟩), .agg #[.slice (some ⟨w.heap.size, 0, none⟩) 1 1, .func (.func 114) #[.pointer (some ⟨g, 0, none⟩)] #[]]] (w.alloc (.cells #[.int .i64 2] 2)) fun e w' =>
      (e = .returned (.tuple #[]) ∧ WkO w' 132 2 lo g A n c (doStep [2] fLet cs) s) ∧ Out lo (g + 1) w w' := by
  have hc := (own_cap h.row).1
  have b0 := (Below.refl w.heap.size w).alloc (Nat.le_refl _) (.cells #[.int .i64 2] 2)
  refine (takeLetter_any [2] fLet (h.below b0) (Blk.new w _ _) h.blk.lt hl (by decide) (fun w' cs' k h1 h2 h3 h4 => letter_any k)).mono ?_
  rintro e w1 ⟨⟨rfl, h1⟩, o1⟩
  exact ⟨⟨rfl, h1⟩, (Out.of_below (lo := lo) (hi := g + 1) b0).trans o1⟩
theorem turnSeparator_any (h : WkO w 132 2 lo g A n c cs s) (hl : n ≤ 600) :
    Calls Tryz.prog 111 #[.pointer (some ⟨g, 0, none⟩), .agg #[.slice (some ⟨w.heap.size, 0, none⟩) 2 2, .func (.func 115) #[.pointer (some ⟨g, 0, none⟩)] #[]]] (w.alloc (.cells #[.int .i64 4,.int .i64 7] 2)) fun e w' =>
      (e = .returned (.tuple #[]) ∧ WkO w' 132 2 lo g A n c (doStep [4,7] fSep cs) s) ∧ Out lo (g + 1) w w' := by
  have hc := (own_cap h.row).1
  have b0 := (Below.refl w.heap.size w).alloc (Nat.le_refl _) (.cells #[.int .i64 4,.int .i64 7] 2)
  refine (takeSeparator_any [4,7] fSep (h.below b0) (Blk.new w _ _) h.blk.lt hl (by decide) (fun w' cs' k h1 h2 h3 h4 => separator_any h1 (by omega) k h4)).mono ?_
  rintro e w1 ⟨⟨rfl, h1⟩, o1⟩
  exact ⟨⟨rfl, h1⟩, (Out.of_below (lo := lo) (hi := g + 1) b0).trans o1⟩
theorem turnTerminator_any (h : WkO w 132 2 lo g A n c cs s) (hl : n ≤ 600) :
    Calls Tryz.prog 111 #[.pointer (some ⟨g, 0, none⟩), .agg #[.slice (some ⟨w.heap.size, 0, none⟩) 1 1, .func (.func 116) #[.pointer (some ⟨g, 0, none⟩)] #[]]] (w.alloc (.cells #[.int .i64 5] 2)) fun e w' =>
      (e = .returned (.tuple #[]) ∧ WkO w' 132 2 lo g A n c (doStep [5] fTerm cs) s) ∧ Out lo (g + 1) w w' := by
  have hc := (own_cap h.row).1
  have b0 := (Below.refl w.heap.size w).alloc (Nat.le_refl _) (.cells #[.int .i64 5] 2)
  refine (takeTerminator_any [5] fTerm (h.below b0) (Blk.new w _ _) h.blk.lt hl (by decide) (fun w' cs' k h1 h2 h3 h4 => terminator_any h1 (by omega) k h4)).mono ?_
  rintro e w1 ⟨⟨rfl, h1⟩, o1⟩
  exact ⟨⟨rfl, h1⟩, (Out.of_below (lo := lo) (hi := g + 1) b0).trans o1⟩
theorem turnRest_any (h : WkO w 132 2 lo g A n c cs s) (hl : n ≤ 600) :
    Calls Tryz.prog 111 #[.pointer (some ⟨g, 0, none⟩), .agg #[.slice (some ⟨w.heap.size, 0, none⟩) 3 3, .func (.func 117) #[.pointer (some ⟨g, 0, none⟩)] #[]]] (w.alloc (.cells #[.int .i64 4,.int .i64 5,.int .i64 7] 2)) fun e w' =>
      (e = .returned (.tuple #[]) ∧ WkO w' 132 2 lo g A n c (doStep [4,5,7] fRest cs) s) ∧ Out lo (g + 1) w w' := by
  have hc := (own_cap h.row).1
  have b0 := (Below.refl w.heap.size w).alloc (Nat.le_refl _) (.cells #[.int .i64 4,.int .i64 5,.int .i64 7] 2)
  refine (takeRest_any [4,5,7] fRest (h.below b0) (Blk.new w _ _) h.blk.lt hl (by decide) (fun w' cs' k h1 h2 h3 h4 => rest_any k)).mono ?_
  rintro e w1 ⟨⟨rfl, h1⟩, o1⟩
  exact ⟨⟨rfl, h1⟩, (Out.of_below (lo := lo) (hi := g + 1) b0).trans o1⟩
theorem turnSide_any (h : WkO w 132 2 lo g A n c cs s) (hl : n ≤ 600) :
    Calls Tryz.prog 111 #[.pointer (some ⟨g, 0, none⟩), .agg #[.slice (some ⟨w.heap.size, 0, none⟩) 1 1, .func (.func 118) #[.pointer (some ⟨g, 0, none⟩)] #[]]] (w.alloc (.cells #[.int .i64 3] 2)) fun e w' =>
      (e = .returned (.tuple #[]) ∧ WkO w' 132 2 lo g A n c (doStep [3] (fSide s) cs) s) ∧ Out lo (g + 1) w w' := by
  have hc := (own_cap h.row).1
  have b0 := (Below.refl w.heap.size w).alloc (Nat.le_refl _) (.cells #[.int .i64 3] 2)
  refine (takeSide_any [3] (fSide s) (h.below b0) (Blk.new w _ _) h.blk.lt hl (by decide) (fun w' cs' k h1 h2 h3 h4 => numberOfSide_any h1 h2 (by omega) (by omega) k h4)).mono ?_
  rintro e w1 ⟨⟨rfl, h1⟩, o1⟩
  exact ⟨⟨rfl, h1⟩, (Out.of_below (lo := lo) (hi := g + 1) b0).trans o1⟩
set_option maxRecDepth 100000 in
set_option maxHeartbeats 4000000 in
theorem turnsMarks_any (h : WkO w 132 2 lo g A n c cs s) (hl : n ≤ 600) :
    Calls Tryz.prog 103 #[.pointer (some ⟨g, 0, none⟩), .int .i64 0, .int .i64 0] w fun e w' => (e = .returned (.tuple #[]) ∧ WkO w' 132 2 lo g A n c (marksW cs s) s) ∧ Out lo (g + 1) w w' := by
  have H := Lib.hid h
  have O := Lib.hid (Out.refl lo (g + 1) w)
  clear h
  go_enter Tryz.func103, Tryz.ntmps103
  go_wp2_with fail
  refine (turnMark_any H.out hl).mono ?_
  rintro e w1 ⟨⟨rfl, h1⟩, o1⟩
  replace H := Lib.hid h1
  replace O := Lib.hid (O.out.trans o1)
  clear h1 o1
  go_wp2
  go_end0
  exact ⟨⟨rfl, H.out⟩, O.out⟩
set_option maxRecDepth 100000 in
set_option maxHeartbeats 4000000 in
theorem turnsNumbers_any (h : WkO w 132 2 lo g A n c cs s) (hl : n ≤ 600) :
    Calls Tryz.prog 103 #[.pointer (some ⟨g, 0, none⟩), .int .i64 1, .int .i64 1] w fun e w' => (e = .returned (.tuple #[]) ∧ WkO w' 132 2 lo g A n c (numsW cs s) s) ∧ Out lo (g + 1) w w' := by
  have H := Lib.hid h
  have O := Lib.hid (Out.refl lo (g + 1) w)
  clear h
  go_enter Tryz.func103, Tryz.ntmps103
  go_wp2_with fail
  refine (turnNumber_any H.out hl).mono ?_
  rintro e w1 ⟨⟨rfl, h1⟩, o1⟩
  replace H := Lib.hid h1
  replace O := Lib.hid (O.out.trans o1)
  clear h1 o1
  go_wp2_with fail
  refine (turnLetter_any H.out hl).mono ?_
  rintro e w2 ⟨⟨rfl, h1⟩, o1⟩
  replace H := Lib.hid h1
  replace O := Lib.hid (O.out.trans o1)
  clear h1 o1
  go_wp2
  go_end0
  exact ⟨⟨rfl, H.out⟩, O.out⟩
set_option maxRecDepth 100000 in
set_option maxHeartbeats 4000000 in
theorem turnsSigns_any (h : WkO w 132 2 lo g A n c cs s) (hl : n ≤ 600) :
    Calls Tryz.prog 103 #[.pointer (some ⟨g, 0, none⟩), .int .i64 2, .int .i64 2] w fun e w' => (e = .returned (.tuple #[]) ∧ WkO w' 132 2 lo g A n c (signsW cs s) s) ∧ Out lo (g + 1) w w' := by
  have H := Lib.hid h
  have O := Lib.hid (Out.refl lo (g + 1) w)
  clear h
  go_enter Tryz.func103, Tryz.ntmps103
  go_wp2_with fail
  refine (turnSeparator_any H.out hl).mono ?_
  rintro e w1 ⟨⟨rfl, h1⟩, o1⟩
  replace H := Lib.hid h1
  replace O := Lib.hid (O.out.trans o1)
  clear h1 o1
  go_wp2_with fail
  refine (turnTerminator_any H.out hl).mono ?_
  rintro e w2 ⟨⟨rfl, h1⟩, o1⟩
  replace H := Lib.hid h1
  replace O := Lib.hid (O.out.trans o1)
  clear h1 o1
  go_wp2_with fail
  refine (turnRest_any H.out hl).mono ?_
  rintro e w3 ⟨⟨rfl, h1⟩, o1⟩
  replace H := Lib.hid h1
  replace O := Lib.hid (O.out.trans o1)
  clear h1 o1
  go_wp2_with fail
  refine (turnSide_any H.out hl).mono ?_
  rintro e w4 ⟨⟨rfl, h1⟩, o1⟩
  replace H := Lib.hid h1
  replace O := Lib.hid (O.out.trans o1)
  clear h1 o1
  go_wp2
  go_end0
  exact ⟨⟨rfl, H.out⟩, O.out⟩
set_option maxRecDepth 100000 in
set_option maxHeartbeats 4000000 in
theorem turnsWeak_any (h : WkO w 132 2 lo g A n c cs s) (hl : n ≤ 600) :
    Calls Tryz.prog 103 #[.pointer (some ⟨g, 0, none⟩), .int .i64 0, .int .i64 2] w fun e w' => (e = .returned (.tuple #[]) ∧ WkO w' 132 2 lo g A n c (weakW cs s) s) ∧ Out lo (g + 1) w w' := by
  have H := Lib.hid h
  have O := Lib.hid (Out.refl lo (g + 1) w)
  clear h
  go_enter Tryz.func103, Tryz.ntmps103
  go_wp2_with fail
  refine (turnMark_any H.out hl).mono ?_
  rintro e w1 ⟨⟨rfl, h1⟩, o1⟩
  replace H := Lib.hid h1
  replace O := Lib.hid (O.out.trans o1)
  clear h1 o1
  go_wp2_with fail
  refine (turnNumber_any H.out hl).mono ?_
  rintro e w2 ⟨⟨rfl, h1⟩, o1⟩
  replace H := Lib.hid h1
  replace O := Lib.hid (O.out.trans o1)
  clear h1 o1
  go_wp2_with fail
  refine (turnLetter_any H.out hl).mono ?_
  rintro e w3 ⟨⟨rfl, h1⟩, o1⟩
  replace H := Lib.hid h1
  replace O := Lib.hid (O.out.trans o1)
  clear h1 o1
  go_wp2_with fail
  refine (turnSeparator_any H.out hl).mono ?_
  rintro e w4 ⟨⟨rfl, h1⟩, o1⟩
  replace H := Lib.hid h1
  replace O := Lib.hid (O.out.trans o1)
  clear h1 o1
  go_wp2_with fail
  refine (turnTerminator_any H.out hl).mono ?_
  rintro e w5 ⟨⟨rfl, h1⟩, o1⟩
  replace H := Lib.hid h1
  replace O := Lib.hid (O.out.trans o1)
  clear h1 o1
  go_wp2_with fail
  refine (turnRest_any H.out hl).mono ?_
  rintro e w6 ⟨⟨rfl, h1⟩, o1⟩
  replace H := Lib.hid h1
  replace O := Lib.hid (O.out.trans o1)
  clear h1 o1
  go_wp2_with fail
  refine (turnSide_any H.out hl).mono ?_
  rintro e w7 ⟨⟨rfl, h1⟩, o1⟩
  replace H := Lib.hid h1
  replace O := Lib.hid (O.out.trans o1)
  clear h1 o1
  go_wp2
  go_end0
  exact ⟨⟨rfl, H.out⟩, O.out⟩
end
end Go.Proofs.YtcfnhjpmihngdaaGreat
