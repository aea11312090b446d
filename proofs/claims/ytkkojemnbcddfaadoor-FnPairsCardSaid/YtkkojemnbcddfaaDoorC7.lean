/- Chapter 2: MirrorOf, BracketOf: the program's and the model's. -/
import Derived.Test.YtkkojemnbcddfaaDoorC6
namespace Go.Proofs.YtkkojemnbcddfaaDoor
open Go.RowKit

def mirN (c : Int) : Int := if isPaired c = true then (if c = pFirst c then pSecond c else pFirst c) else c
def mirC (c : Int) : Int := if isChr c = true then 0 else 3
def mirV (c : Int) : Int := if isChr c = true then mirN c else 0
theorem mir_no {c : Int} (h : isChr c = false) : mirC c = 3 ∧ mirV c = 0 := by unfold mirC mirV; simp [h]
theorem mir_yes {c : Int} (h : isChr c = true) : mirC c = 0 ∧ mirV c = mirN c := by unfold mirC mirV; simp [h]
def isBr (c : Int) : Bool := isPaired c && !(pName c == 0)
def brC (c : Int) : Int := if isChr c = true then (if isBr c = true then 0 else 4) else 3
def brO (c : Int) : Bool := isChr c && isBr c && (c == pFirst c)
def brN (c : Int) : Int := if isChr c = true then (if isBr c = true then pName c else 0) else 0
theorem br_no {c : Int} (h : isChr c = false) : brC c = 3 ∧ brO c = false ∧ brN c = 0 := by unfold brC brO brN; simp [h]
theorem br_none {c : Int} (h : isChr c = true) (k : isBr c = false) : brC c = 4 ∧ brO c = false ∧ brN c = 0 := by unfold brC brO brN; simp [h, k]
theorem br_yes {c : Int} (h : isChr c = true) (k : isBr c = true) : brC c = 0 ∧ brO c = (c == pFirst c) ∧ brN c = pName c := by unfold brC brO brN; simp [h, k]
theorem agg3 {a a' n n' : Int} {o o' : Bool} (h : a = a') (k : o = o') (l : n = n') : Ending.returned (.agg #[.int .i64 a, .bool o, .int .i64 n]) = .returned (.agg #[.int .i64 a', .bool o', .int .i64 n']) := by rw [h, k, l]

def flatL : List Int := [40, 41, 60, 62, 91, 93, 123, 125, 9001, 9002, 12296, 12297]
def flatLeft (k : Nat) (c : Int) : Prop := ∀ j x, j < k → flatL[j]? = some x → c ≠ x
theorem flat_end {c : Int} (h : flatLeft 12 c) : isPaired c = false := by
  have : pairsLeft 6 c := by
    intro j p hj hp
    match j, hp with
    | 0, hp => cases hp; exact ⟨h 0 _ (by omega) rfl, h 1 _ (by omega) rfl⟩
    | 1, hp => cases hp; exact ⟨h 2 _ (by omega) rfl, h 3 _ (by omega) rfl⟩
    | 2, hp => cases hp; exact ⟨h 4 _ (by omega) rfl, h 5 _ (by omega) rfl⟩
    | 3, hp => cases hp; exact ⟨h 6 _ (by omega) rfl, h 7 _ (by omega) rfl⟩
    | 4, hp => cases hp; exact ⟨h 8 _ (by omega) rfl, h 9 _ (by omega) rfl⟩
    | 5, hp => cases hp; exact ⟨h 10 _ (by omega) rfl, h 11 _ (by omega) rfl⟩
    | j + 6, _ => omega
  unfold isPaired
  rw [pairAt_none this]; rfl
theorem flat_step {c : Int} {k : Nat} {x : Int} (hk : flatL[k]? = some x) (h : flatLeft k c) (h1 : c ≠ x) : flatLeft (k + 1) c := by
  intro j q hj hq
  by_cases e : j = k
  · subst e; rw [hk] at hq; cases hq; exact h1
  · exact h j q (by omega) hq

theorem l2Pairs_any (w : World) :
    Calls Tryd.prog 45 #[] w fun e w' => e = .returned (.slice (some ⟨w.heap.size, 0, none⟩) 12 12) ∧ w.alloc (.cells #[.int .i64 40, .int .i64 41, .int .i64 60, .int .i64 62, .int .i64 91, .int .i64 93, .int .i64 123, .int .i64 125, .int .i64 9001, .int .i64 9002, .int .i64 12296, .int .i64 12297] 2) = w' := by
  go_enter Tryd.func45, Tryd.ntmps45
  go_wp2
  go_ret
  exact ⟨rfl, rfl⟩

set_option maxRecDepth 100000 in
set_option maxHeartbeats 4000000 in
theorem specBracketOf_val (c : Int) (w : World) (_ : (Lit.int .i64 c).wf = true) :
    Calls Tryd.prog 14 #[.int .i64 c] w fun e w' => e = .returned (.agg #[.int .i64 (brC c), .bool (brO c), .int .i64 (brN c)]) ∧ Below w.heap.size w w' := by
  have b0 := (Below.refl w.heap.size w).alloc (Nat.le_refl _) (.cells #[.int .i64 0, .bool false, .int .i64 0] 36)
  have k0 := Blk.new w 36 #[.int .i64 0, .bool false, .int .i64 0]
  have szw : (w.alloc (.cells #[.int .i64 0, .bool false, .int .i64 0] 36)).heap.size = w.heap.size + 1 := by simp
  cases h1 : isChr c
  · have e := Lib.hid (br_no h1)
    go_enter Tryd.func14, Tryd.ntmps14
    go_wp2_with (go_at_call 44; refine (specIsChar_b _ _).mono ?_; rintro e w' ⟨rfl, rfl⟩)
    exact bodyPost_ret (v := .agg #[.int .i64 3, .bool false, .int .i64 0]) (by simp [results, Tryd.results14, go_sem]) rfl ⟨agg3 e.out.1.symm e.out.2.1.symm e.out.2.2.symm, (Below.refl _ _).alloc (Nat.le_refl _) _⟩
  · by_cases h60 : c = 60 ∨ c = 62
    · have e := Lib.hid (br_none h1 (show isBr c = false by rcases h60 with rfl | rfl <;> decide))
      rcases h60 with rfl | rfl
      all_goals
        go_enter Tryd.func14, Tryd.ntmps14
        go_wp2_with (first
          | (go_at_call 44; refine (specIsChar_b _ _).mono ?_; rintro e w' ⟨rfl, rfl⟩)
          | (go_at_call 45; refine (l2Pairs_any _).mono ?_; rintro e w' ⟨rfl, rfl⟩))
        refine wp_loop_rounds 13 ?_
        iterate 13 (rw [rounds_succ]; go_wp2)
        exact bodyPost_ret (v := .agg #[.int .i64 4, .bool false, .int .i64 0]) (by simp [results, Tryd.results14, go_sem]) rfl ⟨agg3 e.out.1.symm e.out.2.1.symm e.out.2.2.symm, ((Below.refl _ _).alloc (Nat.le_refl _) _).alloc (by simp) _⟩
    · have H1 := Lib.hid h1
      have H60 := Lib.hid h60
      go_enter Tryd.func14, Tryd.ntmps14
      go_wp2_with (first
        | (go_at_call 44; refine (specIsChar_b _ _).mono ?_; rintro e w' ⟨rfl, rfl⟩)
        | (go_at_call 45; refine (l2Pairs_any _).mono ?_; rintro e w' ⟨rfl, rfl⟩))
      clear h1 h60
      go_loop [4] (fun i => ∃ k : Nat, k ≤ 12 ∧ i = .int .i64 k ∧ Hid (flatLeft k c)) (fun i => 12 - (intOf i).toNat)
      case atStart => exact ⟨0, by omega, rfl, Lib.hid (fun j x h => by omega)⟩
      case round =>
        obtain ⟨k, hk, rfl, hl⟩ := hrel
        rcases (by omega : k = 0 ∨ k = 1 ∨ k = 2 ∨ k = 3 ∨ k = 4 ∨ k = 5 ∨ k = 6 ∨ k = 7 ∨ k = 8 ∨ k = 9 ∨ k = 10 ∨ k = 11 ∨ k = 12) with rfl | rfl | rfl | rfl | rfl | rfl | rfl | rfl | rfl | rfl | rfl | rfl | rfl
        · by_cases h : c = 40
          · have e := Lib.hid (br_yes H1.out (show isBr c = true by rw [h]; decide))
            subst h
            clear H60
            go_wp2
            exact bodyPost_ret (v := .agg #[.int .i64 0, .bool true, .int .i64 40]) (by simp [results, Tryd.results14, go_sem]) rfl ⟨agg3 e.out.1.symm ((by decide : true = ((40 : Int) == pFirst 40)).trans e.out.2.1.symm) ((by decide : (40 : Int) = pName 40).trans e.out.2.2.symm), ((Below.refl _ _).alloc (Nat.le_refl _) _).alloc (by simp) _⟩
          · have HF := Lib.hid (flat_step (k := 0) (x := 40) rfl hl.out h)
            have g : ((40 : Int) != c) = true := by simp; omega
            clear h
            go_wp2
            go_round
            case rel => exact ⟨0 + 1, by omega, rfl, HF⟩
            case measure => simp [intOf]
        · by_cases h : c = 41
          · have e := Lib.hid (br_yes H1.out (show isBr c = true by rw [h]; decide))
            subst h
            clear H60
            go_wp2
            exact bodyPost_ret (v := .agg #[.int .i64 0, .bool false, .int .i64 40]) (by simp [results, Tryd.results14, go_sem]) rfl ⟨agg3 e.out.1.symm ((by decide : false = ((41 : Int) == pFirst 41)).trans e.out.2.1.symm) ((by decide : (40 : Int) = pName 41).trans e.out.2.2.symm), ((Below.refl _ _).alloc (Nat.le_refl _) _).alloc (by simp) _⟩
          · have HF := Lib.hid (flat_step (k := 1) (x := 41) rfl hl.out h)
            have g : ((41 : Int) != c) = true := by simp; omega
            clear h
            go_wp2
            go_round
            case rel => exact ⟨1 + 1, by omega, rfl, HF⟩
            case measure => simp [intOf]
        · have h : c ≠ 60 := fun h => H60.out (by omega)
          have HF := Lib.hid (flat_step (k := 2) (x := 60) rfl hl.out h)
          have g : ((60 : Int) != c) = true := by simp; omega
          clear h
          go_wp2
          go_round
          case rel => exact ⟨2 + 1, by omega, rfl, HF⟩
          case measure => simp [intOf]
        · have h : c ≠ 62 := fun h => H60.out (by omega)
          have HF := Lib.hid (flat_step (k := 3) (x := 62) rfl hl.out h)
          have g : ((62 : Int) != c) = true := by simp; omega
          clear h
          go_wp2
          go_round
          case rel => exact ⟨3 + 1, by omega, rfl, HF⟩
          case measure => simp [intOf]
        · by_cases h : c = 91
          · have e := Lib.hid (br_yes H1.out (show isBr c = true by rw [h]; decide))
            subst h
            clear H60
            go_wp2
            exact bodyPost_ret (v := .agg #[.int .i64 0, .bool true, .int .i64 91]) (by simp [results, Tryd.results14, go_sem]) rfl ⟨agg3 e.out.1.symm ((by decide : true = ((91 : Int) == pFirst 91)).trans e.out.2.1.symm) ((by decide : (91 : Int) = pName 91).trans e.out.2.2.symm), ((Below.refl _ _).alloc (Nat.le_refl _) _).alloc (by simp) _⟩
          · have HF := Lib.hid (flat_step (k := 4) (x := 91) rfl hl.out h)
            have g : ((91 : Int) != c) = true := by simp; omega
            clear h
            go_wp2
            go_round
            case rel => exact ⟨4 + 1, by omega, rfl, HF⟩
            case measure => simp [intOf]
        · by_cases h : c = 93
          · have e := Lib.hid (br_yes H1.out (show isBr c = true by rw [h]; decide))
            subst h
            clear H60
            go_wp2
            exact bodyPost_ret (v := .agg #[.int .i64 0, .bool false, .int .i64 91]) (by simp [results, Tryd.results14, go_sem]) rfl ⟨agg3 e.out.1.symm ((by decide : false = ((93 : Int) == pFirst 93)).trans e.out.2.1.symm) ((by decide : (91 : Int) = pName 93).trans e.out.2.2.symm), ((Below.refl _ _).alloc (Nat.le_refl _) _).alloc (by simp) _⟩
          · have HF := Lib.hid (flat_step (k := 5) (x := 93) rfl hl.out h)
            have g : ((93 : Int) != c) = true := by simp; omega
            clear h
            go_wp2
            go_round
            case rel => exact ⟨5 + 1, by omega, rfl, HF⟩
            case measure => simp [intOf]
        · by_cases h : c = 123
          · have e := Lib.hid (br_yes H1.out (show isBr c = true by rw [h]; decide))
            subst h
            clear H60
            go_wp2
            exact bodyPost_ret (v := .agg #[.int .i64 0, .bool true, .int .i64 123]) (by simp [results, Tryd.results14, go_sem]) rfl ⟨agg3 e.out.1.symm ((by decide : true = ((123 : Int) == pFirst 123)).trans e.out.2.1.symm) ((by decide : (123 : Int) = pName 123).trans e.out.2.2.symm), ((Below.refl _ _).alloc (Nat.le_refl _) _).alloc (by simp) _⟩
          · have HF := Lib.hid (flat_step (k := 6) (x := 123) rfl hl.out h)
            have g : ((123 : Int) != c) = true := by simp; omega
            clear h
            go_wp2
            go_round
            case rel => exact ⟨6 + 1, by omega, rfl, HF⟩
            case measure => simp [intOf]
        · by_cases h : c = 125
          · have e := Lib.hid (br_yes H1.out (show isBr c = true by rw [h]; decide))
            subst h
            clear H60
            go_wp2
            exact bodyPost_ret (v := .agg #[.int .i64 0, .bool false, .int .i64 123]) (by simp [results, Tryd.results14, go_sem]) rfl ⟨agg3 e.out.1.symm ((by decide : false = ((125 : Int) == pFirst 125)).trans e.out.2.1.symm) ((by decide : (123 : Int) = pName 125).trans e.out.2.2.symm), ((Below.refl _ _).alloc (Nat.le_refl _) _).alloc (by simp) _⟩
          · have HF := Lib.hid (flat_step (k := 7) (x := 125) rfl hl.out h)
            have g : ((125 : Int) != c) = true := by simp; omega
            clear h
            go_wp2
            go_round
            case rel => exact ⟨7 + 1, by omega, rfl, HF⟩
            case measure => simp [intOf]
        · by_cases h : c = 9001
          · have e := Lib.hid (br_yes H1.out (show isBr c = true by rw [h]; decide))
            subst h
            clear H60
            go_wp2
            exact bodyPost_ret (v := .agg #[.int .i64 0, .bool true, .int .i64 9001]) (by simp [results, Tryd.results14, go_sem]) rfl ⟨agg3 e.out.1.symm ((by decide : true = ((9001 : Int) == pFirst 9001)).trans e.out.2.1.symm) ((by decide : (9001 : Int) = pName 9001).trans e.out.2.2.symm), ((Below.refl _ _).alloc (Nat.le_refl _) _).alloc (by simp) _⟩
          · have HF := Lib.hid (flat_step (k := 8) (x := 9001) rfl hl.out h)
            have g : ((9001 : Int) != c) = true := by simp; omega
            clear h
            go_wp2
            go_round
            case rel => exact ⟨8 + 1, by omega, rfl, HF⟩
            case measure => simp [intOf]
        · by_cases h : c = 9002
          · have e := Lib.hid (br_yes H1.out (show isBr c = true by rw [h]; decide))
            subst h
            clear H60
            go_wp2
            exact bodyPost_ret (v := .agg #[.int .i64 0, .bool false, .int .i64 9001]) (by simp [results, Tryd.results14, go_sem]) rfl ⟨agg3 e.out.1.symm ((by decide : false = ((9002 : Int) == pFirst 9002)).trans e.out.2.1.symm) ((by decide : (9001 : Int) = pName 9002).trans e.out.2.2.symm), ((Below.refl _ _).alloc (Nat.le_refl _) _).alloc (by simp) _⟩
          · have HF := Lib.hid (flat_step (k := 9) (x := 9002) rfl hl.out h)
            have g : ((9002 : Int) != c) = true := by simp; omega
            clear h
            go_wp2
            go_round
            case rel => exact ⟨9 + 1, by omega, rfl, HF⟩
            case measure => simp [intOf]
        · by_cases h : c = 12296
          · have e := Lib.hid (br_yes H1.out (show isBr c = true by rw [h]; decide))
            subst h
            clear H60
            go_wp2
            exact bodyPost_ret (v := .agg #[.int .i64 0, .bool true, .int .i64 9001]) (by simp [results, Tryd.results14, go_sem]) rfl ⟨agg3 e.out.1.symm ((by decide : true = ((12296 : Int) == pFirst 12296)).trans e.out.2.1.symm) ((by decide : (9001 : Int) = pName 12296).trans e.out.2.2.symm), ((Below.refl _ _).alloc (Nat.le_refl _) _).alloc (by simp) _⟩
          · have HF := Lib.hid (flat_step (k := 10) (x := 12296) rfl hl.out h)
            have g : ((12296 : Int) != c) = true := by simp; omega
            clear h
            go_wp2
            go_round
            case rel => exact ⟨10 + 1, by omega, rfl, HF⟩
            case measure => simp [intOf]
        · by_cases h : c = 12297
          · have e := Lib.hid (br_yes H1.out (show isBr c = true by rw [h]; decide))
            subst h
            clear H60
            go_wp2
            exact bodyPost_ret (v := .agg #[.int .i64 0, .bool false, .int .i64 9001]) (by simp [results, Tryd.results14, go_sem]) rfl ⟨agg3 e.out.1.symm ((by decide : false = ((12297 : Int) == pFirst 12297)).trans e.out.2.1.symm) ((by decide : (9001 : Int) = pName 12297).trans e.out.2.2.symm), ((Below.refl _ _).alloc (Nat.le_refl _) _).alloc (by simp) _⟩
          · have HF := Lib.hid (flat_step (k := 11) (x := 12297) rfl hl.out h)
            have g : ((12297 : Int) != c) = true := by simp; omega
            clear h
            go_wp2
            go_round
            case rel => exact ⟨11 + 1, by omega, rfl, HF⟩
            case measure => simp [intOf]
        · have e := Lib.hid (br_none H1.out (show isBr c = false by unfold isBr; rw [flat_end hl.out]; rfl))
          go_wp2
          exact bodyPost_ret (v := .agg #[.int .i64 4, .bool false, .int .i64 0]) (by simp [results, Tryd.results14, go_sem]) rfl ⟨agg3 e.out.1.symm e.out.2.1.symm e.out.2.2.symm, ((Below.refl _ _).alloc (Nat.le_refl _) _).alloc (by simp) _⟩
set_option maxRecDepth 100000 in
set_option maxHeartbeats 1000000 in
theorem bracketOf_val (c : Int) (w : World) (hT : Pairs w) (_ : (Lit.int .i64 c).wf = true) :
    Calls Tryd.prog 62 #[.int .i64 c] w fun e w' => e = .returned (.agg #[.int .i64 (brC c), .bool (brO c), .int .i64 (brN c)]) ∧ Below w.heap.size w w' := by
  have HT := Lib.hid hT
  clear hT
  have b0 := (Below.refl w.heap.size w).alloc (Nat.le_refl _) (.cells #[.int .i64 0, .bool false, .int .i64 0] 36)
  have k0 := Blk.new w 36 #[.int .i64 0, .bool false, .int .i64 0]
  go_enter Tryd.func62, Tryd.ntmps62
  go_wp2_with fail
  refine (isChar_b _ _).mono ?_
  rintro e w1 ⟨rfl, b1⟩
  have k1 := k0.below b1 k0.lt
  have b2 := below_on b0 b1 (Nat.le_refl _)
  cases h1 : isChr c
  · have e := Lib.hid (br_no h1)
    have hd0 := k1.cell 0 (u := .int .i64 0) rfl
    have hd1 := k1.cell 1 (u := .bool false) rfl
    have hd2 := k1.cell 2 (u := .int .i64 0) rfl
    have hf0 := k1.frozen 0
    have hf1 := k1.frozen 1
    have hf2 := k1.frozen 2
    go_wp2
    exact bodyPost_ret (v := .agg #[.int .i64 3, .bool false, .int .i64 0]) (by simp [results, Tryd.results62, go_sem, hd0, hd1, hd2]) rfl ⟨agg3 e.out.1.symm e.out.2.1.symm e.out.2.2.symm, ((b2.setCell (by simp) _).setCell (by simp) _).setCell (by simp) _⟩
  · have H1 := Lib.hid h1
    go_wp2_with fail
    refine (pairOf_any _ _ (HT.out.on b2)).mono ?_
    rintro e w2 ⟨rfl, b3⟩
    have kk := k1.below b3 k1.lt
    have hsz := kk.lt
    have hd0 := kk.cell 0 (u := .int .i64 0) rfl
    have hd1 := kk.cell 1 (u := .bool false) rfl
    have hd2 := kk.cell 2 (u := .int .i64 0) rfl
    have hf0 := kk.frozen 0
    have hf1 := kk.frozen 1
    have hf2 := kk.frozen 2
    have bk := Lib.hid (below_on b2 b3 (Nat.le_refl _))
    clear kk
    cases h2 : isPaired c
    · have e := Lib.hid (br_none H1.out (show isBr c = false by unfold isBr; rw [h2]; rfl))
      go_wp2
      refine bodyPost_ret (v := .agg #[.int .i64 4, .bool false, .int .i64 0]) (by simp [results, Tryd.results62, go_sem, hd0, hd1, hd2, hsz]) rfl ⟨agg3 e.out.1.symm e.out.2.1.symm e.out.2.2.symm, ?_⟩
      exact (((bk.out.setCell (by simp) _).setCell (by simp) _).setCell (by simp) _).alloc (by have := bk.out.size; simp; omega) _
    · by_cases h3 : pName c = 0
      · have e := Lib.hid (br_none H1.out (show isBr c = false by unfold isBr; rw [h2, eq_yes h3]; rfl))
        have h4 := eq_yes h3
        clear h3
        go_wp2
        refine bodyPost_ret (v := .agg #[.int .i64 4, .bool false, .int .i64 0]) (by simp [results, Tryd.results62, go_sem, hd0, hd1, hd2, hsz]) rfl ⟨agg3 e.out.1.symm e.out.2.1.symm e.out.2.2.symm, ?_⟩
        exact (((bk.out.setCell (by simp) _).setCell (by simp) _).setCell (by simp) _).alloc (by have := bk.out.size; simp; omega) _
      · have e := Lib.hid (br_yes H1.out (show isBr c = true by unfold isBr; rw [h2, eq_no h3]; rfl))
        have h4 := eq_no h3
        clear h3
        go_wp2
        refine bodyPost_ret (v := .agg #[.int .i64 0, .bool (c == pFirst c), .int .i64 (pName c)]) (by simp [results, Tryd.results62, go_sem, hd0, hd1, hd2, hsz]) rfl ⟨agg3 e.out.1.symm e.out.2.1.symm e.out.2.2.symm, ?_⟩
        exact (((bk.out.setCell (by simp) _).setCell (by simp) _).setCell (by simp) _).alloc (by have := bk.out.size; simp; omega) _
end Go.Proofs.YtkkojemnbcddfaaDoor
