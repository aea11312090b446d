/- Chapter 7: the program's brackets, whole. -/
import Derived.Test.YtkkojemnbcddfaaDoorZ7
import Derived.Test.YtkkojemnbcddfaaDoorZ6
import Derived.Test.YtkkojemnbcddfaaDoorS1
namespace Go.Proofs.YtkkojemnbcddfaaDoor
open Go.RowKit Go.Maps

theorem SoP.more {w : World} {A : Option Addr} {n c : Nat} {way sos : Int} {B B' g1 g2 g3 g4 : Nat} (h : SoP w A n c way sos B g1 g2 g3 g4) (hB : B ≤ B') : SoP w A n c way sos B' g1 g2 g3 g4 :=
  ⟨h.c1, h.c2, h.c3, h.c4, Nat.lt_of_lt_of_le h.l1 hB, Nat.lt_of_lt_of_le h.l2 hB, Nat.lt_of_lt_of_le h.l3 hB, Nat.lt_of_lt_of_le h.l4 hB⟩
theorem sop_fin (v0 v1 v2 : Value) (p : Prt) (A : Option Addr) (n c : Nat) (way : Int) (w wA : World) (K1 : Blk wA (w.heap.size + 1) 24 #[.slice A n c]) (K2 : Blk wA w.heap.size 26 #[v0, v1, v2, .int .i64 p.L, .int .i64 p.S, .int .i64 p.E]) (B2 : Below w.heap.size w wA) (z2 : wA.heap.size = w.heap.size + 1 + 1) :
    (∃ g1 g2 g3 g4, Ending.returned (.func (.func 89) #[] #[.pointer (some ⟨w.heap.size + 1, 0, none⟩), .pointer (some ⟨wA.heap.size, 0, none⟩), .pointer (some ⟨wA.heap.size + 1, 0, none⟩), .pointer (some ⟨w.heap.size, 0, none⟩)]) = .returned (.func (.func 89) #[] #[.pointer (some ⟨g1, 0, none⟩), .pointer (some ⟨g2, 0, none⟩), .pointer (some ⟨g3, 0, none⟩), .pointer (some ⟨g4, 0, none⟩)]) ∧ SoP ((wA.alloc (.cells #[.int .i64 way] 2)).alloc (.cells #[.int .i64 (1 - way)] 2)).drew A n c way p.S ((wA.alloc (.cells #[.int .i64 way] 2)).alloc (.cells #[.int .i64 (1 - way)] 2)).drew.heap.size g1 g2 g3 g4 ∧ (w.heap.size ≤ g1 ∧ w.heap.size ≤ g2 ∧ w.heap.size ≤ g3 ∧ w.heap.size ≤ g4)) ∧ Below w.heap.size w ((wA.alloc (.cells #[.int .i64 way] 2)).alloc (.cells #[.int .i64 (1 - way)] 2)).drew := by
  have B4 := B2.alloc (by omega) (.cells #[.int .i64 way] 2)
  have B5 := B4.alloc (by simp; omega) (.cells #[.int .i64 (1 - way)] 2)
  have W1 := (Blk.new wA 2 #[.int .i64 way]).alloc (.cells #[.int .i64 (1 - way)] 2)
  have W2 := Blk.new (wA.alloc (.cells #[.int .i64 way] 2)) 2 #[.int .i64 (1 - way)]
  have W3 := (K1.alloc (.cells #[.int .i64 way] 2)).alloc (.cells #[.int .i64 (1 - way)] 2)
  have W4 := (K2.alloc (.cells #[.int .i64 way] 2)).alloc (.cells #[.int .i64 (1 - way)] 2)
  rw [World.size_alloc] at W2
  have z5 : ((wA.alloc (.cells #[.int .i64 way] 2)).alloc (.cells #[.int .i64 (1 - way)] 2)).heap.size = w.heap.size + 4 := by simp; omega
  generalize (wA.alloc (.cells #[.int .i64 way] 2)).alloc (.cells #[.int .i64 (1 - way)] 2) = wB at *
  exact ⟨⟨w.heap.size + 1, wA.heap.size, wA.heap.size + 1, w.heap.size, rfl, ⟨W3.cell 0 rfl, W1.cell 0 rfl, W2.cell 0 rfl, W4.cell 4 rfl, by show _ < wB.heap.size; omega, by show _ < wB.heap.size; omega, by show _ < wB.heap.size; omega, by show _ < wB.heap.size; omega⟩, by omega, by omega, by omega, by omega⟩, below_drewN B5 1⟩
theorem sop_fin2 (v0 v1 v2 : Value) (p : Prt) (A : Option Addr) (n c : Nat) (way : Int) (w wA : World) (K1 : Blk wA (w.heap.size + 1) 24 #[.slice A n c]) (K2 : Blk wA w.heap.size 26 #[v0, v1, v2, .int .i64 p.L, .int .i64 p.S, .int .i64 p.E]) (B2 : Below w.heap.size w wA) (z2 : wA.heap.size = w.heap.size + 1 + 1) :
    (∃ g1 g2 g3 g4, Ending.returned (.func (.func 89) #[] #[.pointer (some ⟨w.heap.size + 1, 0, none⟩), .pointer (some ⟨wA.heap.size + 1, 0, none⟩), .pointer (some ⟨wA.heap.size, 0, none⟩), .pointer (some ⟨w.heap.size, 0, none⟩)]) = .returned (.func (.func 89) #[] #[.pointer (some ⟨g1, 0, none⟩), .pointer (some ⟨g2, 0, none⟩), .pointer (some ⟨g3, 0, none⟩), .pointer (some ⟨g4, 0, none⟩)]) ∧ SoP ((wA.alloc (.cells #[.int .i64 (1 - way)] 2)).alloc (.cells #[.int .i64 way] 2)).drew A n c way p.S ((wA.alloc (.cells #[.int .i64 (1 - way)] 2)).alloc (.cells #[.int .i64 way] 2)).drew.heap.size g1 g2 g3 g4 ∧ (w.heap.size ≤ g1 ∧ w.heap.size ≤ g2 ∧ w.heap.size ≤ g3 ∧ w.heap.size ≤ g4)) ∧ Below w.heap.size w ((wA.alloc (.cells #[.int .i64 (1 - way)] 2)).alloc (.cells #[.int .i64 way] 2)).drew := by
  have B4 := B2.alloc (by omega) (.cells #[.int .i64 (1 - way)] 2)
  have B5 := B4.alloc (by simp; omega) (.cells #[.int .i64 way] 2)
  have W1 := (Blk.new wA 2 #[.int .i64 (1 - way)]).alloc (.cells #[.int .i64 way] 2)
  have W2 := Blk.new (wA.alloc (.cells #[.int .i64 (1 - way)] 2)) 2 #[.int .i64 way]
  have W3 := (K1.alloc (.cells #[.int .i64 (1 - way)] 2)).alloc (.cells #[.int .i64 way] 2)
  have W4 := (K2.alloc (.cells #[.int .i64 (1 - way)] 2)).alloc (.cells #[.int .i64 way] 2)
  rw [World.size_alloc] at W2
  have z5 : ((wA.alloc (.cells #[.int .i64 (1 - way)] 2)).alloc (.cells #[.int .i64 way] 2)).heap.size = w.heap.size + 4 := by simp; omega
  generalize (wA.alloc (.cells #[.int .i64 (1 - way)] 2)).alloc (.cells #[.int .i64 way] 2) = wB at *
  exact ⟨⟨w.heap.size + 1, wA.heap.size + 1, wA.heap.size, w.heap.size, rfl, ⟨W3.cell 0 rfl, W2.cell 0 rfl, W1.cell 0 rfl, W4.cell 4 rfl, by show _ < wB.heap.size; omega, by show _ < wB.heap.size; omega, by show _ < wB.heap.size; omega, by show _ < wB.heap.size; omega⟩, by omega, by omega, by omega, by omega⟩, below_drewN B5 1⟩
set_option maxRecDepth 100000 in
set_option maxHeartbeats 4000000 in
theorem sidesOfPairs_any (v0 v1 v2 : Value) (p : Prt) (A : Option Addr) (n c : Nat) (w : World) (hL : 0 ≤ p.L ∧ p.L ≤ 126) :
    Calls Tryd.prog 71 #[.agg #[v0, v1, v2, .int .i64 p.L, .int .i64 p.S, .int .i64 p.E], .slice A n c] w fun e w' =>
      (∃ g1 g2 g3 g4, e = .returned (.func (.func 89) #[] #[.pointer (some ⟨g1, 0, none⟩), .pointer (some ⟨g2, 0, none⟩), .pointer (some ⟨g3, 0, none⟩), .pointer (some ⟨g4, 0, none⟩)]) ∧ SoP w' A n c (sideL p.L) p.S w'.heap.size g1 g2 g3 g4 ∧ (w.heap.size ≤ g1 ∧ w.heap.size ≤ g2 ∧ w.heap.size ≤ g3 ∧ w.heap.size ≤ g4)) ∧ Below w.heap.size w w' := by
  have SN := Lib.hid (sideL_next p.L)
  have K0 := Blk.new w 26 #[v0, v1, v2, .int .i64 p.L, .int .i64 p.S, .int .i64 p.E]
  have b0 := (Below.refl w.heap.size w).alloc (Nat.le_refl _) (.cells #[v0, v1, v2, .int .i64 p.L, .int .i64 p.S, .int .i64 p.E] 26)
  have K1 := Lib.hid (Blk.new (w.alloc (.cells #[v0, v1, v2, .int .i64 p.L, .int .i64 p.S, .int .i64 p.E] 26)) 24 #[.slice A n c])
  have K2 := Lib.hid (K0.alloc (.cells #[.slice A n c] 24))
  have B2 := Lib.hid (b0.alloc (by simp) (.cells #[.slice A n c] 24))
  have z2 := Lib.hid (show ((w.alloc (.cells #[v0, v1, v2, .int .i64 p.L, .int .i64 p.S, .int .i64 p.E] 26)).alloc (.cells #[.slice A n c] 24)).heap.size = w.heap.size + 1 + 1 from by simp)
  rw [World.size_alloc] at K1
  obtain ⟨way, hway⟩ : ∃ x, Hid (sideL p.L = x) := ⟨_, Lib.hid rfl⟩
  rw [hway.out] at SN ⊢
  have S1 := Lib.hid (show ∀ W : World, Calls Tryd.prog 76 #[.int .i64 p.L] W fun e w' => e = .returned (.int .i64 way) ∧ W = w' from fun W => by rw [← hway.out]; exact sideOf7_any p.L W)
  have S2 := Lib.hid (show ∀ W : World, Calls Tryd.prog 76 #[.int .i64 (IntKind.i64.wrap (p.L + 1))] W fun e w' => e = .returned (.int .i64 (1 - way)) ∧ W = w' from fun W => by rw [← SN.out, show IntKind.i64.wrap (p.L + 1) = p.L + 1 by simp [IntKind.wrap, IntKind.bits, IntKind.signed]; omega]; exact sideOf7_any (p.L + 1) W)
  clear K0 b0
  go_enter Tryd.func71, Tryd.ntmps71
  go_wp2_with fail
  generalize (w.alloc (.cells #[v0, v1, v2, .int .i64 p.L, .int .i64 p.S, .int .i64 p.E] 26)).alloc (.cells #[.slice A n c] 24) = wA at *
  have F1 := Lib.hid (sop_fin v0 v1 v2 p A n c way w wA K1.out K2.out B2.out z2.out)
  have F2 := Lib.hid (sop_fin2 v0 v1 v2 p A n c way w wA K1.out K2.out B2.out z2.out)
  have f3 := K2.out.cell 3 (u := .int .i64 p.L) rfl
  clear K1 K2 B2
  go_region_held3 (fun w' => w'.cell? ⟨w.heap.size, 3, none⟩ = some (.int .i64 p.L)) (first | exact f3 | exact cell_alloc f3 _ | exact cell_alloc (cell_alloc f3 _) _) (first
    | (go_at_call 76; refine (S1.out _).mono ?_; rintro e w' ⟨rfl, rfl⟩)
    | (go_at_call 76; refine (S2.out _).mono ?_; rintro e w' ⟨rfl, rfl⟩))
  clear f3
  all_goals
    go_wp2
    go_ret
    first | exact F1.out | exact F2.out
end Go.Proofs.YtkkojemnbcddfaaDoor
