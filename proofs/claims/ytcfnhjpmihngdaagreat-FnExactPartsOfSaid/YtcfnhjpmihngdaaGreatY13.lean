/- The rules for classes: the map that the program fills, in whatever order. -/
import Derived.Test.YtcfnhjpmihngdaaGreatY02
import Derived.Test.YtcfnhjpmihngdaaGreatY12
import Derived.Test.YtcfnhjpmihngdaaGreatY07
import Derived.DeepKeys4
import Derived.WideKeyArgs2
namespace Go.Proofs.YtcfnhjpmihngdaaGreat
open Go.RowKit Go.Maps

def rulesL : List Row4 :=
  [(10, 10, 1, 10), (13, 13, 1, 10), (8233, 8233, 1, 10), (9, 9, 2, 11), (32, 32, 3, 12), (48, 57, 4, 3),
   (43, 43, 5, 4), (45, 45, 5, 4), (35, 37, 6, 5), (44, 44, 7, 7), (46, 47, 7, 7), (58, 58, 7, 7),
   (65, 90, 8, 0), (97, 122, 8, 0), (0, 31, 9, 9), (127, 159, 9, 9), (173, 173, 9, 9), (8203, 8203, 9, 9),
   (33, 191, 10, 13), (768, 879, 11, 8), (1611, 1618, 11, 8), (1488, 1514, 12, 1), (1569, 1610, 13, 2), (1632, 1641, 14, 6),
   (8234, 8234, 15, 14), (8235, 8235, 15, 15), (8236, 8236, 15, 16), (8237, 8237, 15, 17), (8238, 8238, 15, 18), (8294, 8294, 16, 19),
   (8295, 8295, 16, 20), (8296, 8296, 16, 21), (8297, 8297, 16, 22), (9001, 9002, 17, 13), (12296, 12297, 17, 13), (65533, 65533, 17, 13)]

theorem laidB : laidOutB Tryz.prog = true := by kernel_rfl
theorem spanRow : (115 : TypeId) < Tryz.prog.types.size := of_decide_eq_true (by kernel_rfl)
theorem spanWide : (match Tryz.prog.underlying 115 with | some (.array _ _) | some (.struct _) => true | _ => false) = true := by kernel_rfl
set_option maxRecDepth 100000 in
theorem spanKeyed : Keyed Tryz.prog 115 := Keyed.of_law (deep_law_laid laidB (m := 2) (by omega) spanRow (by kernel_rfl) spanWide)
set_option maxRecDepth 100000 in
theorem spanKeys : (rulesL.all fun r => (keyOf Tryz.prog 115 (rKey r)).isSome) = true := by kernel_rfl
theorem rulesApart : rulesL.Pairwise (fun p q => rKey p ≠ rKey q) := by
  have : rulesL.Pairwise (fun p q => (p.1, p.2.1) ≠ (q.1, q.2.1)) := by decide
  refine this.imp fun {p q} h e => h ?_
  simp only [rKey, Value.agg.injEq] at e
  simp at e
  simp [e.1, e.2]
theorem spanBuild (x y : Int) (w : World) : (Instr.build 115 #[(0, .int .i64 x), (1, .int .i64 y)]).run Tryz.prog w = .ok (.agg #[.int .i64 x, .int .i64 y]) w := by simp [go_sem]
theorem ruleBuild (x y : Int) (w : World) : (Instr.build 117 #[(0, .int .i64 x), (1, .int .i64 y)]).run Tryz.prog w = .ok (.agg #[.int .i64 x, .int .i64 y]) w := by simp [go_sem]

theorem classRules_any (w : World) :
    Calls Tryz.prog 73 #[] w fun e w' => (e = .returned (.map (some w.heap.size)) ∧ ∃ es clock, Mp w' w.heap.size (rulesL.map rEnt) (fun j => decide (j < rulesL.length)) es clock) ∧ Below w.heap.size w w' := by
  go_enter Tryz.func73, Tryz.ntmps73
  go_wp2
  refine wp_region_lit (tm := 105) (tk := 115) (tv := 117) (te := 117) (R := rulesL) ?_ spanKeyed Tryz.underlying105 ?_ rulesApart spanBuild ruleBuild (by kernel_rfl) (by simp [rulesL]) rfl ?_
  · exact litOps_of (by kernel_rfl) (by kernel_rfl) (by kernel_rfl)
  · intro r hr
    have := List.all_eq_true.1 spanKeys r hr
    exact Option.isSome_iff_exists.1 this
  · intro a' w' hsz hd h0 hb hm
    rename_i hK
    refine hK _ _ ?_
    refine wp_ret ?_
    exact bodyPost_ret (v := a'.tmps.getD 0 undef) (results_tmp rfl _ _ _) hd ⟨⟨by rw [h0], hm⟩, hb⟩

/-! ### the first rule that fits -/
def fits (c : Int) (r : Row4) : Bool := decide (r.1 ≤ c) && decide (c ≤ r.2.1)
def clsTabF (c : Int) : Int := ((rulesL.find? (fits c)).map (fun r => r.2.2.2)).getD 0
theorem find_if (c : Int) (r : Row4) (l : List Row4) (d : Int) : (((r :: l).find? (fits c)).map (fun r => r.2.2.2)).getD d = if r.1 ≤ c ∧ c ≤ r.2.1 then r.2.2.2 else ((l.find? (fits c)).map (fun r => r.2.2.2)).getD d := by
  by_cases h : r.1 ≤ c ∧ c ≤ r.2.1
  · rw [if_pos h, List.find?_cons_of_pos (by simp [fits, h])]; rfl
  · rw [if_neg h, List.find?_cons_of_neg (by simp only [fits, Bool.and_eq_true, decide_eq_true_eq]; exact h)]

theorem classF_0 {c : Int} (h : c = 10 ∨ c = 13 ∨ c = 8233) : clsTabF c = 10 := by
  rcases h with h | h | h
  all_goals
    simp only [clsTabF, rulesL, find_if]
    repeat (first | rw [if_pos (by omega)] | rw [if_neg (by omega)])
theorem classF_1 {c : Int} (h : c = 9) (_ : ¬ (c = 10 ∨ c = 13 ∨ c = 8233)) : clsTabF c = 11 := by
  simp only [clsTabF, rulesL, find_if]
  repeat (first | rw [if_pos (by omega)] | rw [if_neg (by omega)])
theorem classF_2 {c : Int} (h : c = 32) (_ : ¬ (c = 10 ∨ c = 13 ∨ c = 8233)) (_ : ¬ (c = 9)) : clsTabF c = 12 := by
  simp only [clsTabF, rulesL, find_if]
  repeat (first | rw [if_pos (by omega)] | rw [if_neg (by omega)])
theorem classF_3 {c : Int} (h : 48 ≤ c ∧ c ≤ 57) (_ : ¬ (c = 10 ∨ c = 13 ∨ c = 8233)) (_ : ¬ (c = 9)) (_ : ¬ (c = 32)) : clsTabF c = 3 := by
  simp only [clsTabF, rulesL, find_if]
  repeat (first | rw [if_pos (by omega)] | rw [if_neg (by omega)])
theorem classF_4 {c : Int} (h : c = 43 ∨ c = 45) (_ : ¬ (c = 10 ∨ c = 13 ∨ c = 8233)) (_ : ¬ (c = 9)) (_ : ¬ (c = 32)) (_ : ¬ (48 ≤ c ∧ c ≤ 57)) : clsTabF c = 4 := by
  rcases h with h | h
  all_goals
    simp only [clsTabF, rulesL, find_if]
    repeat (first | rw [if_pos (by omega)] | rw [if_neg (by omega)])
theorem classF_5 {c : Int} (h : 35 ≤ c ∧ c ≤ 37) (_ : ¬ (c = 10 ∨ c = 13 ∨ c = 8233)) (_ : ¬ (c = 9)) (_ : ¬ (c = 32)) (_ : ¬ (48 ≤ c ∧ c ≤ 57)) (_ : ¬ (c = 43 ∨ c = 45)) : clsTabF c = 5 := by
  simp only [clsTabF, rulesL, find_if]
  repeat (first | rw [if_pos (by omega)] | rw [if_neg (by omega)])
theorem classF_6 {c : Int} (h : c = 44 ∨ c = 46 ∨ c = 47 ∨ c = 58) (_ : ¬ (c = 10 ∨ c = 13 ∨ c = 8233)) (_ : ¬ (c = 9)) (_ : ¬ (c = 32)) (_ : ¬ (48 ≤ c ∧ c ≤ 57)) (_ : ¬ (c = 43 ∨ c = 45)) (_ : ¬ (35 ≤ c ∧ c ≤ 37)) : clsTabF c = 7 := by
  rcases h with h | h | h | h
  all_goals
    simp only [clsTabF, rulesL, find_if]
    repeat (first | rw [if_pos (by omega)] | rw [if_neg (by omega)])
theorem classF_7 {c : Int} (h : (65 ≤ c ∧ c ≤ 90) ∨ (97 ≤ c ∧ c ≤ 122)) (_ : ¬ (c = 10 ∨ c = 13 ∨ c = 8233)) (_ : ¬ (c = 9)) (_ : ¬ (c = 32)) (_ : ¬ (48 ≤ c ∧ c ≤ 57)) (_ : ¬ (c = 43 ∨ c = 45)) (_ : ¬ (35 ≤ c ∧ c ≤ 37)) (_ : ¬ (c = 44 ∨ c = 46 ∨ c = 47 ∨ c = 58)) : clsTabF c = 0 := by
  rcases h with h | h
  all_goals
    simp only [clsTabF, rulesL, find_if]
    repeat (first | rw [if_pos (by omega)] | rw [if_neg (by omega)])
theorem classF_8 {c : Int} (h : (0 ≤ c ∧ c ≤ 31) ∨ (127 ≤ c ∧ c ≤ 159) ∨ c = 173 ∨ c = 8203) (_ : ¬ (c = 10 ∨ c = 13 ∨ c = 8233)) (_ : ¬ (c = 9)) (_ : ¬ (c = 32)) (_ : ¬ (48 ≤ c ∧ c ≤ 57)) (_ : ¬ (c = 43 ∨ c = 45)) (_ : ¬ (35 ≤ c ∧ c ≤ 37)) (_ : ¬ (c = 44 ∨ c = 46 ∨ c = 47 ∨ c = 58)) (_ : ¬ ((65 ≤ c ∧ c ≤ 90) ∨ (97 ≤ c ∧ c ≤ 122))) : clsTabF c = 9 := by
  rcases h with h | h | h | h
  all_goals
    simp only [clsTabF, rulesL, find_if]
    repeat (first | rw [if_pos (by omega)] | rw [if_neg (by omega)])
theorem classF_9 {c : Int} (h : 33 ≤ c ∧ c ≤ 191) (_ : ¬ (c = 10 ∨ c = 13 ∨ c = 8233)) (_ : ¬ (c = 9)) (_ : ¬ (c = 32)) (_ : ¬ (48 ≤ c ∧ c ≤ 57)) (_ : ¬ (c = 43 ∨ c = 45)) (_ : ¬ (35 ≤ c ∧ c ≤ 37)) (_ : ¬ (c = 44 ∨ c = 46 ∨ c = 47 ∨ c = 58)) (_ : ¬ ((65 ≤ c ∧ c ≤ 90) ∨ (97 ≤ c ∧ c ≤ 122))) (_ : ¬ ((0 ≤ c ∧ c ≤ 31) ∨ (127 ≤ c ∧ c ≤ 159) ∨ c = 173 ∨ c = 8203)) : clsTabF c = 13 := by
  simp only [clsTabF, rulesL, find_if]
  repeat (first | rw [if_pos (by omega)] | rw [if_neg (by omega)])
theorem classF_10 {c : Int} (h : (768 ≤ c ∧ c ≤ 879) ∨ (1611 ≤ c ∧ c ≤ 1618)) (_ : ¬ (c = 10 ∨ c = 13 ∨ c = 8233)) (_ : ¬ (c = 9)) (_ : ¬ (c = 32)) (_ : ¬ (48 ≤ c ∧ c ≤ 57)) (_ : ¬ (c = 43 ∨ c = 45)) (_ : ¬ (35 ≤ c ∧ c ≤ 37)) (_ : ¬ (c = 44 ∨ c = 46 ∨ c = 47 ∨ c = 58)) (_ : ¬ ((65 ≤ c ∧ c ≤ 90) ∨ (97 ≤ c ∧ c ≤ 122))) (_ : ¬ ((0 ≤ c ∧ c ≤ 31) ∨ (127 ≤ c ∧ c ≤ 159) ∨ c = 173 ∨ c = 8203)) (_ : ¬ (33 ≤ c ∧ c ≤ 191)) : clsTabF c = 8 := by
  rcases h with h | h
  all_goals
    simp only [clsTabF, rulesL, find_if]
    repeat (first | rw [if_pos (by omega)] | rw [if_neg (by omega)])
theorem classF_11 {c : Int} (h : 1488 ≤ c ∧ c ≤ 1514) (_ : ¬ (c = 10 ∨ c = 13 ∨ c = 8233)) (_ : ¬ (c = 9)) (_ : ¬ (c = 32)) (_ : ¬ (48 ≤ c ∧ c ≤ 57)) (_ : ¬ (c = 43 ∨ c = 45)) (_ : ¬ (35 ≤ c ∧ c ≤ 37)) (_ : ¬ (c = 44 ∨ c = 46 ∨ c = 47 ∨ c = 58)) (_ : ¬ ((65 ≤ c ∧ c ≤ 90) ∨ (97 ≤ c ∧ c ≤ 122))) (_ : ¬ ((0 ≤ c ∧ c ≤ 31) ∨ (127 ≤ c ∧ c ≤ 159) ∨ c = 173 ∨ c = 8203)) (_ : ¬ (33 ≤ c ∧ c ≤ 191)) (_ : ¬ ((768 ≤ c ∧ c ≤ 879) ∨ (1611 ≤ c ∧ c ≤ 1618))) : clsTabF c = 1 := by
  simp only [clsTabF, rulesL, find_if]
  repeat (first | rw [if_pos (by omega)] | rw [if_neg (by omega)])
theorem classF_12 {c : Int} (h : 1569 ≤ c ∧ c ≤ 1610) (_ : ¬ (c = 10 ∨ c = 13 ∨ c = 8233)) (_ : ¬ (c = 9)) (_ : ¬ (c = 32)) (_ : ¬ (48 ≤ c ∧ c ≤ 57)) (_ : ¬ (c = 43 ∨ c = 45)) (_ : ¬ (35 ≤ c ∧ c ≤ 37)) (_ : ¬ (c = 44 ∨ c = 46 ∨ c = 47 ∨ c = 58)) (_ : ¬ ((65 ≤ c ∧ c ≤ 90) ∨ (97 ≤ c ∧ c ≤ 122))) (_ : ¬ ((0 ≤ c ∧ c ≤ 31) ∨ (127 ≤ c ∧ c ≤ 159) ∨ c = 173 ∨ c = 8203)) (_ : ¬ (33 ≤ c ∧ c ≤ 191)) (_ : ¬ ((768 ≤ c ∧ c ≤ 879) ∨ (1611 ≤ c ∧ c ≤ 1618))) (_ : ¬ (1488 ≤ c ∧ c ≤ 1514)) : clsTabF c = 2 := by
  simp only [clsTabF, rulesL, find_if]
  repeat (first | rw [if_pos (by omega)] | rw [if_neg (by omega)])
theorem classF_13 {c : Int} (h : 1632 ≤ c ∧ c ≤ 1641) (_ : ¬ (c = 10 ∨ c = 13 ∨ c = 8233)) (_ : ¬ (c = 9)) (_ : ¬ (c = 32)) (_ : ¬ (48 ≤ c ∧ c ≤ 57)) (_ : ¬ (c = 43 ∨ c = 45)) (_ : ¬ (35 ≤ c ∧ c ≤ 37)) (_ : ¬ (c = 44 ∨ c = 46 ∨ c = 47 ∨ c = 58)) (_ : ¬ ((65 ≤ c ∧ c ≤ 90) ∨ (97 ≤ c ∧ c ≤ 122))) (_ : ¬ ((0 ≤ c ∧ c ≤ 31) ∨ (127 ≤ c ∧ c ≤ 159) ∨ c = 173 ∨ c = 8203)) (_ : ¬ (33 ≤ c ∧ c ≤ 191)) (_ : ¬ ((768 ≤ c ∧ c ≤ 879) ∨ (1611 ≤ c ∧ c ≤ 1618))) (_ : ¬ (1488 ≤ c ∧ c ≤ 1514)) (_ : ¬ (1569 ≤ c ∧ c ≤ 1610)) : clsTabF c = 6 := by
  simp only [clsTabF, rulesL, find_if]
  repeat (first | rw [if_pos (by omega)] | rw [if_neg (by omega)])
theorem classF_14 {c : Int} (h : 8234 ≤ c ∧ c ≤ 8238) (_ : ¬ (c = 10 ∨ c = 13 ∨ c = 8233)) (_ : ¬ (c = 9)) (_ : ¬ (c = 32)) (_ : ¬ (48 ≤ c ∧ c ≤ 57)) (_ : ¬ (c = 43 ∨ c = 45)) (_ : ¬ (35 ≤ c ∧ c ≤ 37)) (_ : ¬ (c = 44 ∨ c = 46 ∨ c = 47 ∨ c = 58)) (_ : ¬ ((65 ≤ c ∧ c ≤ 90) ∨ (97 ≤ c ∧ c ≤ 122))) (_ : ¬ ((0 ≤ c ∧ c ≤ 31) ∨ (127 ≤ c ∧ c ≤ 159) ∨ c = 173 ∨ c = 8203)) (_ : ¬ (33 ≤ c ∧ c ≤ 191)) (_ : ¬ ((768 ≤ c ∧ c ≤ 879) ∨ (1611 ≤ c ∧ c ≤ 1618))) (_ : ¬ (1488 ≤ c ∧ c ≤ 1514)) (_ : ¬ (1569 ≤ c ∧ c ≤ 1610)) (_ : ¬ (1632 ≤ c ∧ c ≤ 1641)) : clsTabF c = 14 + (c - 8234) := by
  rcases (by omega : c = 8234 ∨ c = 8235 ∨ c = 8236 ∨ c = 8237 ∨ c = 8238) with rfl | rfl | rfl | rfl | rfl
  all_goals rfl
theorem classF_15 {c : Int} (h : 8294 ≤ c ∧ c ≤ 8297) (_ : ¬ (c = 10 ∨ c = 13 ∨ c = 8233)) (_ : ¬ (c = 9)) (_ : ¬ (c = 32)) (_ : ¬ (48 ≤ c ∧ c ≤ 57)) (_ : ¬ (c = 43 ∨ c = 45)) (_ : ¬ (35 ≤ c ∧ c ≤ 37)) (_ : ¬ (c = 44 ∨ c = 46 ∨ c = 47 ∨ c = 58)) (_ : ¬ ((65 ≤ c ∧ c ≤ 90) ∨ (97 ≤ c ∧ c ≤ 122))) (_ : ¬ ((0 ≤ c ∧ c ≤ 31) ∨ (127 ≤ c ∧ c ≤ 159) ∨ c = 173 ∨ c = 8203)) (_ : ¬ (33 ≤ c ∧ c ≤ 191)) (_ : ¬ ((768 ≤ c ∧ c ≤ 879) ∨ (1611 ≤ c ∧ c ≤ 1618))) (_ : ¬ (1488 ≤ c ∧ c ≤ 1514)) (_ : ¬ (1569 ≤ c ∧ c ≤ 1610)) (_ : ¬ (1632 ≤ c ∧ c ≤ 1641)) (_ : ¬ (8234 ≤ c ∧ c ≤ 8238)) : clsTabF c = 19 + (c - 8294) := by
  rcases (by omega : c = 8294 ∨ c = 8295 ∨ c = 8296 ∨ c = 8297) with rfl | rfl | rfl | rfl
  all_goals rfl
theorem classF_16 {c : Int} (h : c = 9001 ∨ c = 9002 ∨ c = 12296 ∨ c = 12297 ∨ c = 65533) (_ : ¬ (c = 10 ∨ c = 13 ∨ c = 8233)) (_ : ¬ (c = 9)) (_ : ¬ (c = 32)) (_ : ¬ (48 ≤ c ∧ c ≤ 57)) (_ : ¬ (c = 43 ∨ c = 45)) (_ : ¬ (35 ≤ c ∧ c ≤ 37)) (_ : ¬ (c = 44 ∨ c = 46 ∨ c = 47 ∨ c = 58)) (_ : ¬ ((65 ≤ c ∧ c ≤ 90) ∨ (97 ≤ c ∧ c ≤ 122))) (_ : ¬ ((0 ≤ c ∧ c ≤ 31) ∨ (127 ≤ c ∧ c ≤ 159) ∨ c = 173 ∨ c = 8203)) (_ : ¬ (33 ≤ c ∧ c ≤ 191)) (_ : ¬ ((768 ≤ c ∧ c ≤ 879) ∨ (1611 ≤ c ∧ c ≤ 1618))) (_ : ¬ (1488 ≤ c ∧ c ≤ 1514)) (_ : ¬ (1569 ≤ c ∧ c ≤ 1610)) (_ : ¬ (1632 ≤ c ∧ c ≤ 1641)) (_ : ¬ (8234 ≤ c ∧ c ≤ 8238)) (_ : ¬ (8294 ≤ c ∧ c ≤ 8297)) : clsTabF c = 13 := by
  rcases h with h | h | h | h | h
  all_goals
    simp only [clsTabF, rulesL, find_if]
    repeat (first | rw [if_pos (by omega)] | rw [if_neg (by omega)])
theorem classF_17 {c : Int} (_ : ¬ (c = 10 ∨ c = 13 ∨ c = 8233)) (_ : ¬ (c = 9)) (_ : ¬ (c = 32)) (_ : ¬ (48 ≤ c ∧ c ≤ 57)) (_ : ¬ (c = 43 ∨ c = 45)) (_ : ¬ (35 ≤ c ∧ c ≤ 37)) (_ : ¬ (c = 44 ∨ c = 46 ∨ c = 47 ∨ c = 58)) (_ : ¬ ((65 ≤ c ∧ c ≤ 90) ∨ (97 ≤ c ∧ c ≤ 122))) (_ : ¬ ((0 ≤ c ∧ c ≤ 31) ∨ (127 ≤ c ∧ c ≤ 159) ∨ c = 173 ∨ c = 8203)) (_ : ¬ (33 ≤ c ∧ c ≤ 191)) (_ : ¬ ((768 ≤ c ∧ c ≤ 879) ∨ (1611 ≤ c ∧ c ≤ 1618))) (_ : ¬ (1488 ≤ c ∧ c ≤ 1514)) (_ : ¬ (1569 ≤ c ∧ c ≤ 1610)) (_ : ¬ (1632 ≤ c ∧ c ≤ 1641)) (_ : ¬ (8234 ≤ c ∧ c ≤ 8238)) (_ : ¬ (8294 ≤ c ∧ c ≤ 8297)) (_ : ¬ (c = 9001 ∨ c = 9002 ∨ c = 12296 ∨ c = 12297 ∨ c = 65533)) : clsTabF c = 0 := by
  simp only [clsTabF, rulesL, find_if]
  repeat (first | rw [if_neg (by omega)])
  rfl
set_option maxRecDepth 100000 in
set_option maxHeartbeats 1000000 in
theorem classF_eq (c : Int) : clsTabF c = classN c := by
  unfold classN
  by_cases n0 : c = 10 ∨ c = 13 ∨ c = 8233
  · rw [if_pos n0]; exact classF_0 n0
  by_cases n1 : c = 9
  · rw [if_neg n0, if_pos n1]; exact classF_1 n1 n0
  by_cases n2 : c = 32
  · rw [if_neg n0, if_neg n1, if_pos n2]; exact classF_2 n2 n0 n1
  by_cases n3 : 48 ≤ c ∧ c ≤ 57
  · rw [if_neg n0, if_neg n1, if_neg n2, if_pos n3]; exact classF_3 n3 n0 n1 n2
  by_cases n4 : c = 43 ∨ c = 45
  · rw [if_neg n0, if_neg n1, if_neg n2, if_neg n3, if_pos n4]; exact classF_4 n4 n0 n1 n2 n3
  by_cases n5 : 35 ≤ c ∧ c ≤ 37
  · rw [if_neg n0, if_neg n1, if_neg n2, if_neg n3, if_neg n4, if_pos n5]; exact classF_5 n5 n0 n1 n2 n3 n4
  by_cases n6 : c = 44 ∨ c = 46 ∨ c = 47 ∨ c = 58
  · rw [if_neg n0, if_neg n1, if_neg n2, if_neg n3, if_neg n4, if_neg n5, if_pos n6]; exact classF_6 n6 n0 n1 n2 n3 n4 n5
  by_cases n7 : (65 ≤ c ∧ c ≤ 90) ∨ (97 ≤ c ∧ c ≤ 122)
  · rw [if_neg n0, if_neg n1, if_neg n2, if_neg n3, if_neg n4, if_neg n5, if_neg n6, if_pos n7]; exact classF_7 n7 n0 n1 n2 n3 n4 n5 n6
  by_cases n8 : (0 ≤ c ∧ c ≤ 31) ∨ (127 ≤ c ∧ c ≤ 159) ∨ c = 173 ∨ c = 8203
  · rw [if_neg n0, if_neg n1, if_neg n2, if_neg n3, if_neg n4, if_neg n5, if_neg n6, if_neg n7, if_pos n8]; exact classF_8 n8 n0 n1 n2 n3 n4 n5 n6 n7
  by_cases n9 : 33 ≤ c ∧ c ≤ 191
  · rw [if_neg n0, if_neg n1, if_neg n2, if_neg n3, if_neg n4, if_neg n5, if_neg n6, if_neg n7, if_neg n8, if_pos n9]; exact classF_9 n9 n0 n1 n2 n3 n4 n5 n6 n7 n8
  by_cases n10 : (768 ≤ c ∧ c ≤ 879) ∨ (1611 ≤ c ∧ c ≤ 1618)
  · rw [if_neg n0, if_neg n1, if_neg n2, if_neg n3, if_neg n4, if_neg n5, if_neg n6, if_neg n7, if_neg n8, if_neg n9, if_pos n10]; exact classF_10 n10 n0 n1 n2 n3 n4 n5 n6 n7 n8 n9
  by_cases n11 : 1488 ≤ c ∧ c ≤ 1514
  · rw [if_neg n0, if_neg n1, if_neg n2, if_neg n3, if_neg n4, if_neg n5, if_neg n6, if_neg n7, if_neg n8, if_neg n9, if_neg n10, if_pos n11]; exact classF_11 n11 n0 n1 n2 n3 n4 n5 n6 n7 n8 n9 n10
  by_cases n12 : 1569 ≤ c ∧ c ≤ 1610
  · rw [if_neg n0, if_neg n1, if_neg n2, if_neg n3, if_neg n4, if_neg n5, if_neg n6, if_neg n7, if_neg n8, if_neg n9, if_neg n10, if_neg n11, if_pos n12]; exact classF_12 n12 n0 n1 n2 n3 n4 n5 n6 n7 n8 n9 n10 n11
  by_cases n13 : 1632 ≤ c ∧ c ≤ 1641
  · rw [if_neg n0, if_neg n1, if_neg n2, if_neg n3, if_neg n4, if_neg n5, if_neg n6, if_neg n7, if_neg n8, if_neg n9, if_neg n10, if_neg n11, if_neg n12, if_pos n13]; exact classF_13 n13 n0 n1 n2 n3 n4 n5 n6 n7 n8 n9 n10 n11 n12
  by_cases n14 : 8234 ≤ c ∧ c ≤ 8238
  · rw [if_neg n0, if_neg n1, if_neg n2, if_neg n3, if_neg n4, if_neg n5, if_neg n6, if_neg n7, if_neg n8, if_neg n9, if_neg n10, if_neg n11, if_neg n12, if_neg n13, if_pos n14]; exact classF_14 n14 n0 n1 n2 n3 n4 n5 n6 n7 n8 n9 n10 n11 n12 n13
  by_cases n15 : 8294 ≤ c ∧ c ≤ 8297
  · rw [if_neg n0, if_neg n1, if_neg n2, if_neg n3, if_neg n4, if_neg n5, if_neg n6, if_neg n7, if_neg n8, if_neg n9, if_neg n10, if_neg n11, if_neg n12, if_neg n13, if_neg n14, if_pos n15]; exact classF_15 n15 n0 n1 n2 n3 n4 n5 n6 n7 n8 n9 n10 n11 n12 n13 n14
  by_cases n16 : c = 9001 ∨ c = 9002 ∨ c = 12296 ∨ c = 12297 ∨ c = 65533
  · rw [if_neg n0, if_neg n1, if_neg n2, if_neg n3, if_neg n4, if_neg n5, if_neg n6, if_neg n7, if_neg n8, if_neg n9, if_neg n10, if_neg n11, if_neg n12, if_neg n13, if_neg n14, if_neg n15, if_pos n16]; exact classF_16 n16 n0 n1 n2 n3 n4 n5 n6 n7 n8 n9 n10 n11 n12 n13 n14 n15
  rw [if_neg n0, if_neg n1, if_neg n2, if_neg n3, if_neg n4, if_neg n5, if_neg n6, if_neg n7, if_neg n8, if_neg n9, if_neg n10, if_neg n11, if_neg n12, if_neg n13, if_neg n14, if_neg n15, if_neg n16]; exact classF_17 n0 n1 n2 n3 n4 n5 n6 n7 n8 n9 n10 n11 n12 n13 n14 n15 n16
end Go.Proofs.YtcfnhjpmihngdaaGreat
