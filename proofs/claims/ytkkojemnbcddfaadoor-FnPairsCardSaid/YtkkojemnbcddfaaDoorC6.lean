/- Chapter 2: the pairs: MirrorOf, BracketOf. -/
import Derived.Test.YtkkojemnbcddfaaDoorC1
namespace Go.Proofs.YtkkojemnbcddfaaDoor
open Go.RowKit

def pairCells : Array Value := #[.int .i64 40, .int .i64 41, .int .i64 40, .int .i64 60, .int .i64 62, .int .i64 0, .int .i64 91, .int .i64 93, .int .i64 91, .int .i64 123, .int .i64 125, .int .i64 123, .int .i64 9001, .int .i64 9002, .int .i64 9001, .int .i64 12296, .int .i64 12297, .int .i64 9001]
/-- the table of pairs lies in the world as it is laid -/
def Pairs (w : World) : Prop := ∃ t fr, w.heap[(0 : Nat)]? = some (.cells pairCells t fr)
theorem Pairs.lt {w : World} (h : Pairs w) : 0 < w.heap.size := by obtain ⟨t, fr, h⟩ := h; exact (Array.getElem?_eq_some_iff.1 h).1
theorem Pairs.on {w w' : World} (h : Pairs w) (hb : Below w.heap.size w w') : Pairs w' := by
  have hl := h.lt
  obtain ⟨t, fr, h⟩ := h
  exact ⟨t, fr, (hb.block _ hl).trans h⟩
theorem Pairs.alloc {w : World} (h : Pairs w) (o : Obj) : Pairs (w.alloc o) := h.on ((Below.refl _ _).alloc (Nat.le_refl _) o)
theorem Pairs.drew {w : World} (h : Pairs w) (n : Nat) : Pairs (w.drewN n) := h
theorem Pairs.out {w w' : World} {lo hi : Nat} (h : Pairs w) (hb : Out lo hi w w') (_ : lo ≤ w.heap.size) (hl : 0 < lo) : Pairs w' := by
  have hh := h.lt
  obtain ⟨t, fr, h⟩ := h
  exact ⟨t, fr, (hb.block _ hh (by omega)).trans h⟩

abbrev Row3 := Int × Int × Int
def pairL : List Row3 := [(40, 41, 40), (60, 62, 0), (91, 93, 91), (123, 125, 123), (9001, 9002, 9001), (12296, 12297, 9001)]
def pairAt (c : Int) : Option Row3 := pairL.find? fun p => decide (c = p.1) || decide (c = p.2.1)
def pFirst (c : Int) : Int := ((pairAt c).getD (0, 0, 0)).1
def pSecond (c : Int) : Int := ((pairAt c).getD (0, 0, 0)).2.1
def pName (c : Int) : Int := ((pairAt c).getD (0, 0, 0)).2.2
def isPaired (c : Int) : Bool := (pairAt c).isSome
def pairsLeft (k : Nat) (c : Int) : Prop := ∀ j p, j < k → pairL[j]? = some p → c ≠ p.1 ∧ c ≠ p.2.1

theorem find_ge {c : Int} {f : Row3 → Bool} : ∀ (l : List Row3) (k : Nat) (p : Row3), l[k]? = some p → f p = true → (∀ j q, j < k → l[j]? = some q → f q = false) → l.find? f = some p
  | [], _, _, h, _, _ => by simp at h
  | x :: l, 0, p, h, hf, _ => by simp at h; subst h; simp [hf]
  | x :: l, k + 1, p, h, hf, hn => by
    rw [List.find?_cons_of_neg (by rw [hn 0 x (by omega) rfl]; decide)]
    exact find_ge (c := c) l k p (by simpa using h) hf (fun j q hj hq => hn (j + 1) q (by omega) (by simpa using hq))

theorem pairAt_of {c : Int} {k : Nat} {p : Row3} (hk : pairL[k]? = some p) (h : pairsLeft k c) (hc : c = p.1 ∨ c = p.2.1) : pairAt c = some p :=
  find_ge (c := c) pairL k p hk (by simpa using hc) (fun j q hj hq => by have := h j q hj hq; simp [this.1, this.2])
theorem pairAt_none {c : Int} (h : pairsLeft 6 c) : pairAt c = none := by
  unfold pairAt
  rw [List.find?_eq_none]
  intro p hp
  obtain ⟨j, hj, rfl⟩ := List.getElem_of_mem hp
  have := h j _ hj (List.getElem?_eq_getElem hj)
  simp [this.1, this.2]
theorem pairsLeft_step {c : Int} {k : Nat} {p : Row3} (hk : pairL[k]? = some p) (h : pairsLeft k c) (h1 : c ≠ p.1) (h2 : c ≠ p.2.1) : pairsLeft (k + 1) c := by
  intro j q hj hq
  by_cases e : j = k
  · subst e; rw [hk] at hq; cases hq; exact ⟨h1, h2⟩
  · exact h j q (by omega) hq

theorem pairIndex0 (w : World) : (Instr.index 103 (.agg pairCells) (.int .i64 0)).run Tryd.prog w = .ok (.agg #[.int .i64 40, .int .i64 41, .int .i64 40]) w := by kernel_rfl
theorem pairIndex1 (w : World) : (Instr.index 103 (.agg pairCells) (.int .i64 1)).run Tryd.prog w = .ok (.agg #[.int .i64 60, .int .i64 62, .int .i64 0]) w := by kernel_rfl
theorem pairIndex2 (w : World) : (Instr.index 103 (.agg pairCells) (.int .i64 2)).run Tryd.prog w = .ok (.agg #[.int .i64 91, .int .i64 93, .int .i64 91]) w := by kernel_rfl
theorem pairIndex3 (w : World) : (Instr.index 103 (.agg pairCells) (.int .i64 3)).run Tryd.prog w = .ok (.agg #[.int .i64 123, .int .i64 125, .int .i64 123]) w := by kernel_rfl
theorem pairIndex4 (w : World) : (Instr.index 103 (.agg pairCells) (.int .i64 4)).run Tryd.prog w = .ok (.agg #[.int .i64 9001, .int .i64 9002, .int .i64 9001]) w := by kernel_rfl
theorem pairIndex5 (w : World) : (Instr.index 103 (.agg pairCells) (.int .i64 5)).run Tryd.prog w = .ok (.agg #[.int .i64 12296, .int .i64 12297, .int .i64 9001]) w := by kernel_rfl
theorem pairInfo : (Tryd.prog.info? 94).map (·.size) = some 3 := by kernel_rfl

set_option maxRecDepth 100000 in
set_option maxHeartbeats 4000000 in
theorem pairOf_any (c : Int) (w : World) (hp : Pairs w) :
    Calls Tryd.prog 85 #[.int .i64 c] w fun e w' => e = .returned (.tuple #[.agg #[.int .i64 (pFirst c), .int .i64 (pSecond c), .int .i64 (pName c)], .bool (isPaired c)]) ∧ Below w.heap.size w w' := by
  have k0 := Blk.new w 94 #[.int .i64 0, .int .i64 0, .int .i64 0]
  have b0 := (Below.refl w.heap.size w).alloc (Nat.le_refl _) (.cells #[.int .i64 0, .int .i64 0, .int .i64 0] 94)
  obtain ⟨pt, pf, hpc⟩ := (hp.alloc (.cells #[.int .i64 0, .int .i64 0, .int .i64 0] 94))
  have HPC := Lib.hid hpc
  clear hpc hp
  go_enter Tryd.func85, Tryd.ntmps85
  go_wp2_with (with_reducible refine wpList_load_row rfl 103 _ rfl 0 rfl pt pairCells pf _ HPC.out Tryd.underlying103 rfl rfl ?_)
  go_loopw [7] (fun i wr => ∃ k : Nat, k ≤ 6 ∧ i = .int .i64 k ∧ Hid (pairsLeft k c) ∧ Hid (Blk wr w.heap.size 94 #[.int .i64 0, .int .i64 0, .int .i64 0]) ∧ Hid (Below w.heap.size w wr)) (fun i _ => 6 - (intOf i).toNat)
  case atStart => exact ⟨0, by omega, rfl, Lib.hid (fun j p h => by omega), Lib.hid k0, Lib.hid b0⟩
  case round =>
    obtain ⟨k, hk, rfl, hl, hkb, hbl⟩ := hrel
    have hsz := hkb.out.lt
    rcases (by omega : k = 0 ∨ k = 1 ∨ k = 2 ∨ k = 3 ∨ k = 4 ∨ k = 5 ∨ k = 6) with rfl | rfl | rfl | rfl | rfl | rfl | rfl
    · have ix := fun (w : World) => pairIndex0 w
      have kb := hkb.out.alloc (.cells #[.int .i64 40, .int .i64 41, .int .i64 40] 94)
      have bb := Lib.hid (hbl.out.alloc hbl.out.size (.cells #[.int .i64 40, .int .i64 41, .int .i64 40] 94))
      have hd0 := hkb.out.cell 0 (u := .int .i64 0) rfl
      have hd1 := hkb.out.cell 1 (u := .int .i64 0) rfl
      have hd2 := hkb.out.cell 2 (u := .int .i64 0) rfl
      have hf0 := hkb.out.frozen 0
      have hf1 := hkb.out.frozen 1
      have hf2 := hkb.out.frozen 2
      have KB := Lib.hid kb
      clear kb
      by_cases h1 : c = 40
      · have HP := Lib.hid (pairAt_of (k := 0) (p := (40, 41, 40)) rfl hl.out (.inl h1))
        have g1 := eq_yes h1
        clear h1
        go_wp2
        refine bodyPost_ret (v := .tuple #[.agg #[.int .i64 40, .int .i64 41, .int .i64 40], .bool true]) (by simp [results, Tryd.results85, go_sem, hd0, hd1, hd2, hsz, Nat.ne_of_lt hsz, Nat.ne_of_gt hsz]) rfl ?_
        refine ⟨by unfold pFirst pSecond pName isPaired; rw [HP.out]; rfl, (((hbl.out.setCell (by simp) _).setCell (by simp) _).setCell (by simp) _).alloc (by simp; omega) _⟩
      · by_cases h2 : c = 41
        · have HP := Lib.hid (pairAt_of (k := 0) (p := (40, 41, 40)) rfl hl.out (.inr h2))
          have g1 := eq_no h1
          have g2 := eq_yes h2
          clear h1 h2
          go_wp2
          refine bodyPost_ret (v := .tuple #[.agg #[.int .i64 40, .int .i64 41, .int .i64 40], .bool true]) (by simp [results, Tryd.results85, go_sem, hd0, hd1, hd2, hsz, Nat.ne_of_lt hsz, Nat.ne_of_gt hsz]) rfl ?_
          refine ⟨by unfold pFirst pSecond pName isPaired; rw [HP.out]; rfl, (((hbl.out.setCell (by simp) _).setCell (by simp) _).setCell (by simp) _).alloc (by simp; omega) _⟩
        · have HP := Lib.hid (pairsLeft_step (k := 0) (p := (40, 41, 40)) rfl hl.out h1 h2)
          have g1 := eq_no h1
          have g2 := eq_no h2
          clear h1 h2
          go_wp2
          go_roundw
          case rel => exact ⟨0 + 1, by omega, rfl, HP, KB, bb⟩
          case measure => simp [intOf]
    · have ix := fun (w : World) => pairIndex1 w
      have kb := hkb.out.alloc (.cells #[.int .i64 60, .int .i64 62, .int .i64 0] 94)
      have bb := Lib.hid (hbl.out.alloc hbl.out.size (.cells #[.int .i64 60, .int .i64 62, .int .i64 0] 94))
      have hd0 := hkb.out.cell 0 (u := .int .i64 0) rfl
      have hd1 := hkb.out.cell 1 (u := .int .i64 0) rfl
      have hd2 := hkb.out.cell 2 (u := .int .i64 0) rfl
      have hf0 := hkb.out.frozen 0
      have hf1 := hkb.out.frozen 1
      have hf2 := hkb.out.frozen 2
      have KB := Lib.hid kb
      clear kb
      by_cases h1 : c = 60
      · have HP := Lib.hid (pairAt_of (k := 1) (p := (60, 62, 0)) rfl hl.out (.inl h1))
        have g1 := eq_yes h1
        clear h1
        go_wp2
        refine bodyPost_ret (v := .tuple #[.agg #[.int .i64 60, .int .i64 62, .int .i64 0], .bool true]) (by simp [results, Tryd.results85, go_sem, hd0, hd1, hd2, hsz, Nat.ne_of_lt hsz, Nat.ne_of_gt hsz]) rfl ?_
        refine ⟨by unfold pFirst pSecond pName isPaired; rw [HP.out]; rfl, (((hbl.out.setCell (by simp) _).setCell (by simp) _).setCell (by simp) _).alloc (by simp; omega) _⟩
      · by_cases h2 : c = 62
        · have HP := Lib.hid (pairAt_of (k := 1) (p := (60, 62, 0)) rfl hl.out (.inr h2))
          have g1 := eq_no h1
          have g2 := eq_yes h2
          clear h1 h2
          go_wp2
          refine bodyPost_ret (v := .tuple #[.agg #[.int .i64 60, .int .i64 62, .int .i64 0], .bool true]) (by simp [results, Tryd.results85, go_sem, hd0, hd1, hd2, hsz, Nat.ne_of_lt hsz, Nat.ne_of_gt hsz]) rfl ?_
          refine ⟨by unfold pFirst pSecond pName isPaired; rw [HP.out]; rfl, (((hbl.out.setCell (by simp) _).setCell (by simp) _).setCell (by simp) _).alloc (by simp; omega) _⟩
        · have HP := Lib.hid (pairsLeft_step (k := 1) (p := (60, 62, 0)) rfl hl.out h1 h2)
          have g1 := eq_no h1
          have g2 := eq_no h2
          clear h1 h2
          go_wp2
          go_roundw
          case rel => exact ⟨1 + 1, by omega, rfl, HP, KB, bb⟩
          case measure => simp [intOf]
    · have ix := fun (w : World) => pairIndex2 w
      have kb := hkb.out.alloc (.cells #[.int .i64 91, .int .i64 93, .int .i64 91] 94)
      have bb := Lib.hid (hbl.out.alloc hbl.out.size (.cells #[.int .i64 91, .int .i64 93, .int .i64 91] 94))
      have hd0 := hkb.out.cell 0 (u := .int .i64 0) rfl
      have hd1 := hkb.out.cell 1 (u := .int .i64 0) rfl
      have hd2 := hkb.out.cell 2 (u := .int .i64 0) rfl
      have hf0 := hkb.out.frozen 0
      have hf1 := hkb.out.frozen 1
      have hf2 := hkb.out.frozen 2
      have KB := Lib.hid kb
      clear kb
      by_cases h1 : c = 91
      · have HP := Lib.hid (pairAt_of (k := 2) (p := (91, 93, 91)) rfl hl.out (.inl h1))
        have g1 := eq_yes h1
        clear h1
        go_wp2
        refine bodyPost_ret (v := .tuple #[.agg #[.int .i64 91, .int .i64 93, .int .i64 91], .bool true]) (by simp [results, Tryd.results85, go_sem, hd0, hd1, hd2, hsz, Nat.ne_of_lt hsz, Nat.ne_of_gt hsz]) rfl ?_
        refine ⟨by unfold pFirst pSecond pName isPaired; rw [HP.out]; rfl, (((hbl.out.setCell (by simp) _).setCell (by simp) _).setCell (by simp) _).alloc (by simp; omega) _⟩
      · by_cases h2 : c = 93
        · have HP := Lib.hid (pairAt_of (k := 2) (p := (91, 93, 91)) rfl hl.out (.inr h2))
          have g1 := eq_no h1
          have g2 := eq_yes h2
          clear h1 h2
          go_wp2
          refine bodyPost_ret (v := .tuple #[.agg #[.int .i64 91, .int .i64 93, .int .i64 91], .bool true]) (by simp [results, Tryd.results85, go_sem, hd0, hd1, hd2, hsz, Nat.ne_of_lt hsz, Nat.ne_of_gt hsz]) rfl ?_
          refine ⟨by unfold pFirst pSecond pName isPaired; rw [HP.out]; rfl, (((hbl.out.setCell (by simp) _).setCell (by simp) _).setCell (by simp) _).alloc (by simp; omega) _⟩
        · have HP := Lib.hid (pairsLeft_step (k := 2) (p := (91, 93, 91)) rfl hl.out h1 h2)
          have g1 := eq_no h1
          have g2 := eq_no h2
          clear h1 h2
          go_wp2
          go_roundw
          case rel => exact ⟨2 + 1, by omega, rfl, HP, KB, bb⟩
          case measure => simp [intOf]
    · have ix := fun (w : World) => pairIndex3 w
      have kb := hkb.out.alloc (.cells #[.int .i64 123, .int .i64 125, .int .i64 123] 94)
      have bb := Lib.hid (hbl.out.alloc hbl.out.size (.cells #[.int .i64 123, .int .i64 125, .int .i64 123] 94))
      have hd0 := hkb.out.cell 0 (u := .int .i64 0) rfl
      have hd1 := hkb.out.cell 1 (u := .int .i64 0) rfl
      have hd2 := hkb.out.cell 2 (u := .int .i64 0) rfl
      have hf0 := hkb.out.frozen 0
      have hf1 := hkb.out.frozen 1
      have hf2 := hkb.out.frozen 2
      have KB := Lib.hid kb
      clear kb
      by_cases h1 : c = 123
      · have HP := Lib.hid (pairAt_of (k := 3) (p := (123, 125, 123)) rfl hl.out (.inl h1))
        have g1 := eq_yes h1
        clear h1
        go_wp2
        refine bodyPost_ret (v := .tuple #[.agg #[.int .i64 123, .int .i64 125, .int .i64 123], .bool true]) (by simp [results, Tryd.results85, go_sem, hd0, hd1, hd2, hsz, Nat.ne_of_lt hsz, Nat.ne_of_gt hsz]) rfl ?_
        refine ⟨by unfold pFirst pSecond pName isPaired; rw [HP.out]; rfl, (((hbl.out.setCell (by simp) _).setCell (by simp) _).setCell (by simp) _).alloc (by simp; omega) _⟩
      · by_cases h2 : c = 125
        · have HP := Lib.hid (pairAt_of (k := 3) (p := (123, 125, 123)) rfl hl.out (.inr h2))
          have g1 := eq_no h1
          have g2 := eq_yes h2
          clear h1 h2
          go_wp2
          refine bodyPost_ret (v := .tuple #[.agg #[.int .i64 123, .int .i64 125, .int .i64 123], .bool true]) (by simp [results, Tryd.results85, go_sem, hd0, hd1, hd2, hsz, Nat.ne_of_lt hsz, Nat.ne_of_gt hsz]) rfl ?_
          refine ⟨by unfold pFirst pSecond pName isPaired; rw [HP.out]; rfl, (((hbl.out.setCell (by simp) _).setCell (by simp) _).setCell (by simp) _).alloc (by simp; omega) _⟩
        · have HP := Lib.hid (pairsLeft_step (k := 3) (p := (123, 125, 123)) rfl hl.out h1 h2)
          have g1 := eq_no h1
          have g2 := eq_no h2
          clear h1 h2
          go_wp2
          go_roundw
          case rel => exact ⟨3 + 1, by omega, rfl, HP, KB, bb⟩
          case measure => simp [intOf]
    · have ix := fun (w : World) => pairIndex4 w
      have kb := hkb.out.alloc (.cells #[.int .i64 9001, .int .i64 9002, .int .i64 9001] 94)
      have bb := Lib.hid (hbl.out.alloc hbl.out.size (.cells #[.int .i64 9001, .int .i64 9002, .int .i64 9001] 94))
      have hd0 := hkb.out.cell 0 (u := .int .i64 0) rfl
      have hd1 := hkb.out.cell 1 (u := .int .i64 0) rfl
      have hd2 := hkb.out.cell 2 (u := .int .i64 0) rfl
      have hf0 := hkb.out.frozen 0
      have hf1 := hkb.out.frozen 1
      have hf2 := hkb.out.frozen 2
      have KB := Lib.hid kb
      clear kb
      by_cases h1 : c = 9001
      · have HP := Lib.hid (pairAt_of (k := 4) (p := (9001, 9002, 9001)) rfl hl.out (.inl h1))
        have g1 := eq_yes h1
        clear h1
        go_wp2
        refine bodyPost_ret (v := .tuple #[.agg #[.int .i64 9001, .int .i64 9002, .int .i64 9001], .bool true]) (by simp [results, Tryd.results85, go_sem, hd0, hd1, hd2, hsz, Nat.ne_of_lt hsz, Nat.ne_of_gt hsz]) rfl ?_
        refine ⟨by unfold pFirst pSecond pName isPaired; rw [HP.out]; rfl, (((hbl.out.setCell (by simp) _).setCell (by simp) _).setCell (by simp) _).alloc (by simp; omega) _⟩
      · by_cases h2 : c = 9002
        · have HP := Lib.hid (pairAt_of (k := 4) (p := (9001, 9002, 9001)) rfl hl.out (.inr h2))
          have g1 := eq_no h1
          have g2 := eq_yes h2
          clear h1 h2
          go_wp2
          refine bodyPost_ret (v := .tuple #[.agg #[.int .i64 9001, .int .i64 9002, .int .i64 9001], .bool true]) (by simp [results, Tryd.results85, go_sem, hd0, hd1, hd2, hsz, Nat.ne_of_lt hsz, Nat.ne_of_gt hsz]) rfl ?_
          refine ⟨by unfold pFirst pSecond pName isPaired; rw [HP.out]; rfl, (((hbl.out.setCell (by simp) _).setCell (by simp) _).setCell (by simp) _).alloc (by simp; omega) _⟩
        · have HP := Lib.hid (pairsLeft_step (k := 4) (p := (9001, 9002, 9001)) rfl hl.out h1 h2)
          have g1 := eq_no h1
          have g2 := eq_no h2
          clear h1 h2
          go_wp2
          go_roundw
          case rel => exact ⟨4 + 1, by omega, rfl, HP, KB, bb⟩
          case measure => simp [intOf]
    · have ix := fun (w : World) => pairIndex5 w
      have kb := hkb.out.alloc (.cells #[.int .i64 12296, .int .i64 12297, .int .i64 9001] 94)
      have bb := Lib.hid (hbl.out.alloc hbl.out.size (.cells #[.int .i64 12296, .int .i64 12297, .int .i64 9001] 94))
      have hd0 := hkb.out.cell 0 (u := .int .i64 0) rfl
      have hd1 := hkb.out.cell 1 (u := .int .i64 0) rfl
      have hd2 := hkb.out.cell 2 (u := .int .i64 0) rfl
      have hf0 := hkb.out.frozen 0
      have hf1 := hkb.out.frozen 1
      have hf2 := hkb.out.frozen 2
      have KB := Lib.hid kb
      clear kb
      by_cases h1 : c = 12296
      · have HP := Lib.hid (pairAt_of (k := 5) (p := (12296, 12297, 9001)) rfl hl.out (.inl h1))
        have g1 := eq_yes h1
        clear h1
        go_wp2
        refine bodyPost_ret (v := .tuple #[.agg #[.int .i64 12296, .int .i64 12297, .int .i64 9001], .bool true]) (by simp [results, Tryd.results85, go_sem, hd0, hd1, hd2, hsz, Nat.ne_of_lt hsz, Nat.ne_of_gt hsz]) rfl ?_
        refine ⟨by unfold pFirst pSecond pName isPaired; rw [HP.out]; rfl, (((hbl.out.setCell (by simp) _).setCell (by simp) _).setCell (by simp) _).alloc (by simp; omega) _⟩
      · by_cases h2 : c = 12297
        · have HP := Lib.hid (pairAt_of (k := 5) (p := (12296, 12297, 9001)) rfl hl.out (.inr h2))
          have g1 := eq_no h1
          have g2 := eq_yes h2
          clear h1 h2
          go_wp2
          refine bodyPost_ret (v := .tuple #[.agg #[.int .i64 12296, .int .i64 12297, .int .i64 9001], .bool true]) (by simp [results, Tryd.results85, go_sem, hd0, hd1, hd2, hsz, Nat.ne_of_lt hsz, Nat.ne_of_gt hsz]) rfl ?_
          refine ⟨by unfold pFirst pSecond pName isPaired; rw [HP.out]; rfl, (((hbl.out.setCell (by simp) _).setCell (by simp) _).setCell (by simp) _).alloc (by simp; omega) _⟩
        · have HP := Lib.hid (pairsLeft_step (k := 5) (p := (12296, 12297, 9001)) rfl hl.out h1 h2)
          have g1 := eq_no h1
          have g2 := eq_no h2
          clear h1 h2
          go_wp2
          go_roundw
          case rel => exact ⟨5 + 1, by omega, rfl, HP, KB, bb⟩
          case measure => simp [intOf]
    · have HP := Lib.hid (pairAt_none hl.out)
      have hd0 := hkb.out.cell 0 (u := .int .i64 0) rfl
      have hd1 := hkb.out.cell 1 (u := .int .i64 0) rfl
      have hd2 := hkb.out.cell 2 (u := .int .i64 0) rfl
      have hf0 := hkb.out.frozen 0
      have hf1 := hkb.out.frozen 1
      have hf2 := hkb.out.frozen 2
      go_wp2
      refine bodyPost_ret (v := .tuple #[.agg #[.int .i64 0, .int .i64 0, .int .i64 0], .bool false]) (by simp [results, Tryd.results85, go_sem, hd0, hd1, hd2, hsz, Nat.ne_of_lt hsz, Nat.ne_of_gt hsz]) rfl ?_
      refine ⟨by unfold pFirst pSecond pName isPaired; rw [HP.out]; rfl, ((hbl.out.setCell (by simp) _).setCell (by simp) _).setCell (by simp) _⟩
end Go.Proofs.YtkkojemnbcddfaaDoor
