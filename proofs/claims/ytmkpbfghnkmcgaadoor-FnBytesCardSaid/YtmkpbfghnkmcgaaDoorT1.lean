/- Bytes: beginnings. The library's FullRune, its tables, the program's isBeginning, CarryFault, FlushCarry. -/
import Derived.Test.YtmkpbfghnkmcgaaDoorRows
import Derived.Test.YtmkpbfghnkmcgaaDoorB0
import Derived.Test.YtmkpbfghnkmcgaaDoorM1
import Derived.WalkKit
import Derived.WalkSpells
import Derived.BigQuiet
import Derived.Deep.QuietTactic
import Derived.Lib.LaidU8
import Derived.Lib.DecodeN
namespace Go.Proofs.YtmkpbfghnkmcgaaDoor
open Go.RowKit

def fullB (n : Nat) (b1 b2 x lo hi : Int) : Bool :=
  decide (x % 8 ≤ n) || (decide (1 < n) && (decide (b1 < lo) || decide (hi < b1))) || (decide (2 < n) && (decide (b2 < 128) || decide (191 < b2)))

set_option maxRecDepth 100000 in
set_option maxHeartbeats 2000000 in
theorem fullRune_core (b off n c : Nat) (b0 b1 b2 x lo hi : Int) (w : World) (hn : 0 < n) (hl : n < 1000000000) (hb : b < w.heap.size)
    (h0 : 0 ≤ b0) (h0' : b0 ≤ 255) (hx0 : 0 ≤ x) (hx1 : x ≤ 255)
    (c0 : w.cell? ⟨b, off, none⟩ = some (.int .u8 b0)) (c1 : 1 < n → w.cell? ⟨b, off + 1, none⟩ = some (.int .u8 b1)) (c2 : 2 < n → w.cell? ⟨b, off + 2, none⟩ = some (.int .u8 b2))
    (hx : w.cell? ⟨0, b0.toNat, none⟩ = some (.int .u8 x))
    (hlo : w.cell? ⟨1, (x / 16).toNat * 2, none⟩ = some (.int .u8 lo)) (hhi : w.cell? ⟨1, (x / 16).toNat * 2 + 1, none⟩ = some (.int .u8 hi)) :
    Calls Tryd.prog 60 #[.slice (some ⟨b, off, none⟩) n c] w fun e w' => e = .returned (.bool (fullB n b1 b2 x lo hi)) ∧ Below w.heap.size w w' := by
  have hb0 := Below.refl w.heap.size w
  have hb1 := hb0.alloc (Nat.le_refl _) (.cells #[.int .u8 lo, .int .u8 hi] 87)
  have ka := (Blk.new w 87 #[.int .u8 lo, .int .u8 hi]).cell 0 (u := .int .u8 lo) rfl
  have kb := (Blk.new w 87 #[.int .u8 lo, .int .u8 hi]).cell 1 (u := .int .u8 hi) rfl
  by_cases t0 : x % 8 ≤ n
  · have e : Hid (fullB n b1 b2 x lo hi = true) := Lib.hid (by unfold fullB; simp [t0])
    clear c1 c2
    go_enter Tryd.func60, Tryd.ntmps60
    go_wp2
    go_ret
    exact ⟨rbool e.out.symm, hb0⟩
  · have t0' : (n : Int) < x % 8 := by omega
    clear t0
    by_cases t1 : 1 < n
    · have c1' := (hb1.cell (p := ⟨b, off + 1, none⟩) hb).trans (c1 t1)
      have i1 : (1 : Int) < (n : Int) := by omega
      have j1 : decide ((1 : Int) < (n : Int)) = true := by simp; omega
      clear c1
      by_cases t2 : b1 < lo
      · have e : Hid (fullB n b1 b2 x lo hi = true) := Lib.hid (by unfold fullB; simp [t1, t2])
        have d1 : decide (b1 < lo) = true := by simp [t2]
        clear c2
        go_enter Tryd.func60, Tryd.ntmps60
        go_wp2
        go_quiet (fail)
        go_wp2
        go_ret
        exact ⟨rbool e.out.symm, below_drewN hb1 _⟩
      · have d1 : decide (b1 < lo) = false := by simp [t2]
        by_cases t3 : hi < b1
        · have e : Hid (fullB n b1 b2 x lo hi = true) := Lib.hid (by unfold fullB; simp [t1, t3])
          have d2 : decide (hi < b1) = true := by simp [t3]
          clear c2
          go_enter Tryd.func60, Tryd.ntmps60
          go_wp2
          go_quiet (fail)
          go_wp2
          go_ret
          exact ⟨rbool e.out.symm, below_drewN hb1 _⟩
        · have d2 : decide (hi < b1) = false := by simp [t3]
          by_cases t4 : 2 < n
          · have c2' := (hb1.cell (p := ⟨b, off + 2, none⟩) hb).trans (c2 t4)
            have i2 : (2 : Int) < (n : Int) := by omega
            have j2 : decide ((2 : Int) < (n : Int)) = true := by simp; omega
            clear c2
            have e : Hid (fullB n b1 b2 x lo hi = (decide (b2 < 128) || decide (191 < b2))) := Lib.hid (by unfold fullB; simp [t1, t2, t3, t4]; omega)
            by_cases t5 : b2 < 128
            · go_enter Tryd.func60, Tryd.ntmps60
              go_wp2
              go_quiet (fail)
              go_wp2
              go_ret
              exact ⟨rbool (by rw [e.out]; simp [t5]), below_drewN hb1 _⟩
            · by_cases t6 : 191 < b2
              all_goals
                go_enter Tryd.func60, Tryd.ntmps60
                go_wp2
                go_quiet (fail)
                go_wp2
                go_ret
                exact ⟨rbool (by rw [e.out]; simp [t5, t6]), below_drewN hb1 _⟩
          · have e : Hid (fullB n b1 b2 x lo hi = false) := Lib.hid (by unfold fullB; simp [t2, t3, t4]; omega)
            clear c2
            go_enter Tryd.func60, Tryd.ntmps60
            go_wp2
            go_quiet (fail)
            go_wp2
            go_ret
            exact ⟨rbool e.out.symm, below_drewN hb1 _⟩
    · have e : Hid (fullB n b1 b2 x lo hi = false) := Lib.hid (by unfold fullB; simp [t1]; omega)
      have j1 : decide ((1 : Int) < (n : Int)) = false := by simp; omega
      clear c1 c2
      go_enter Tryd.func60, Tryd.ntmps60
      go_wp2
      go_quiet (fail)
      go_wp2
      go_ret
      exact ⟨rbool e.out.symm, below_drewN hb1 _⟩


/-! the tables lie in the world -/
def Tabs (w : World) : Prop := Lib.Utf8Tabs 0 1 w

theorem cell_lt {w : World} {b o : Nat} {u : Value} (h : w.cell? ⟨b, o, none⟩ = some u) : b < w.heap.size := by
  rcases Nat.lt_or_ge b w.heap.size with hlt | hge
  · exact hlt
  · unfold World.cell? at h
    rw [Array.getElem?_eq_none hge] at h
    cases h
theorem Tabs.lt {w : World} (h : Tabs w) : 0 < w.heap.size ∧ 1 < w.heap.size := ⟨cell_lt (h.1 0 (by omega)), cell_lt (h.2 0 (by omega)).1⟩
theorem Tabs.keep {w w' : World} (h : Tabs w) (h1 : w'.heap[(0 : Nat)]? = w.heap[(0 : Nat)]?) (h2 : w'.heap[(1 : Nat)]? = w.heap[(1 : Nat)]?) : Tabs w' := by
  have e1 : ∀ o, w'.cell? ⟨0, o, none⟩ = w.cell? ⟨0, o, none⟩ := fun o => by unfold World.cell?; rw [h1]
  have e2 : ∀ o, w'.cell? ⟨1, o, none⟩ = w.cell? ⟨1, o, none⟩ := fun o => by unfold World.cell?; rw [h2]
  exact ⟨fun c hc => (e1 _).trans (h.1 c hc), fun i hi => ⟨(e2 _).trans (h.2 i hi).1, (e2 _).trans (h.2 i hi).2⟩⟩
theorem Tabs.below {w w' : World} {B : Nat} (h : Tabs w) (hb : Below B w w') (h1 : 0 < B) (h2 : 1 < B) : Tabs w' := h.keep (hb.block _ h1) (hb.block _ h2)
theorem Tabs.on {w w' : World} (h : Tabs w) (hb : Below w.heap.size w w') : Tabs w' := h.below hb h.lt.1 h.lt.2
theorem Tabs.out {w w' : World} {lo hi : Nat} (h : Tabs w) (hb : Out lo hi w w') (h1 : 0 < lo) (h2 : 1 < lo) : Tabs w' :=
  h.keep (hb.block _ h.lt.1 (fun e => absurd h1 (Nat.not_lt_of_le e.1))) (hb.block _ h.lt.2 (fun e => absurd h2 (Nat.not_lt_of_le e.1)))
theorem Tabs.alloc {w : World} (h : Tabs w) (o : Obj) : Tabs (w.alloc o) := h.on ((Below.refl _ _).alloc (Nat.le_refl _) o)
theorem Tabs.drew {w : World} (h : Tabs w) (n : Nat) : Tabs (w.drewN n) := h


theorem fullRune_any (A : Option Addr) (bs : List Int) (c : Nat) (w : World) (B : Nat) (hT : Tabs w) (hr : Rd w B A (nums .u8 bs)) (hB : B ≤ w.heap.size) (hb : ∀ b ∈ bs, isByte b) (h0 : 0 < bs.length) (hl : bs.length < 1000000000) :
    Calls Tryd.prog 60 #[.slice A bs.length c] w fun e w' => e = .returned (.bool (!begins bs)) ∧ Below w.heap.size w w' := by
  obtain ⟨b, off, rfl, hbB, hc⟩ := hr.int h0
  have hb0 := hb (nth bs 0) (by simp [nth, List.getElem?_eq_getElem h0])
  have t := tab_nat (nth bs 0).toNat (by unfold isByte at hb0; omega)
  have e0 : ((nth bs 0).toNat : Int) = nth bs 0 := Int.toNat_of_nonneg hb0.1
  rw [e0] at t
  have hx := hT.1 (nth bs 0).toNat (by unfold isByte at hb0; omega)
  have ha := hT.2 (Lib.firstT (nth bs 0).toNat / 16) t.2.1
  obtain ⟨X, hX⟩ : ∃ X, X = Lib.firstT (nth bs 0).toNat := ⟨_, rfl⟩
  rw [← hX] at t hx ha
  have e1 : ((X : Int) / 16).toNat = X / 16 := by omega
  refine (fullRune_core b off bs.length c (nth bs 0) (nth bs 1) (nth bs 2) X (Lib.accLo (X / 16) : Nat) (Lib.accHi (X / 16) : Nat) w h0 hl (by omega) hb0.1 hb0.2 (by omega) (by omega) (hc 0 h0) (fun h => hc 1 h) (fun h => hc 2 h) hx
    (by rw [e1, Nat.mul_comm]; exact ha.1) (by rw [e1, Nat.mul_comm]; exact ha.2)).mono fun e w' ⟨he, hw⟩ => ⟨?_, hw⟩
  rw [he]
  apply rbool
  unfold fullB begins
  have hs := size0_cases (nth bs 0)
  have hm : (X : Int) % 8 = if nth bs 0 < 128 then 0 else if size0 (nth bs 0) = 0 then 1 else size0 (nth bs 0) := t.1
  by_cases hlt : (bs.length : Int) < size0 (nth bs 0)
  · have h2 : 2 ≤ size0 (nth bs 0) := by omega
    have hn128 : ¬ nth bs 0 < 128 := by intro h; unfold size0 at h2; rw [if_pos h] at h2; omega
    rw [if_neg hn128, if_neg (by omega)] at hm
    obtain ⟨el, eh⟩ := t.2.2.2 h2
    rw [el, eh, hm]
    have d1 : decide (size0 (nth bs 0) ≤ (bs.length : Int)) = false := by simp; omega
    have d2 : decide ((bs.length : Int) < size0 (nth bs 0)) = true := by simp [hlt]
    rw [d1, d2, Bool.eq_iff_iff]
    simp only [snd, cont, Bool.true_and, Bool.false_or, Bool.or_eq_true, Bool.and_eq_true, Bool.not_eq_true', Bool.and_eq_false_iff, Bool.or_eq_false_iff, decide_eq_true_eq, decide_eq_false_iff_not]
    omega
  · have d1 : decide ((X : Int) % 8 ≤ (bs.length : Int)) = true := by
      simp only [decide_eq_true_eq]
      split at hm
      · omega
      · split at hm
        · omega
        · omega
    have d2 : decide ((bs.length : Int) < size0 (nth bs 0)) = false := by simp; omega
    rw [d1, d2]
    simp
end Go.Proofs.YtmkpbfghnkmcgaaDoor
