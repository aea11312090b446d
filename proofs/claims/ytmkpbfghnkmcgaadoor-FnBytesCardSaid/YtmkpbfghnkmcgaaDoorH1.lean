/- The laws' own helpers: a copy of a slice, the comparison, the marks. -/
import Derived.Test.YtmkpbfghnkmcgaaDoorRows
import Derived.Test.YtmkpbfghnkmcgaaDoorB0
import Derived.WalkKit
import Derived.WalkSpells
import Derived.BigQuiet
import Derived.Deep.QuietTactic
import Derived.Laws.OwnMore
namespace Go.Proofs.YtmkpbfghnkmcgaaDoor
open Go.RowKit

theorem info_int64 : (Tryd.prog.info? 2).map (fun i => (i.zero, i.size, i.bytes)) = some (some (.int .i64 0), 1, 8) := by kernel_rfl
theorem info_uint8 : (Tryd.prog.info? 5).map (fun i => (i.zero, i.size, i.bytes)) = some (some (.int .u8 0), 1, 1) := by kernel_rfl
def marks (k : Int) (n : Nat) : List Int := (List.range n).map fun (j : Nat) => k + (j : Int)
theorem marks_length (k : Int) (n : Nat) : (marks k n).length = n := by simp [marks]
theorem marks_nth (k : Int) (n j : Nat) (h : j < n) : nth (marks k n) j = k + j := by simp [marks, nth, h]

def marks8 (k : Int) (n : Nat) : List Int := (List.range n).map fun (j : Nat) => (k + (j : Int)) % 256
theorem marks8_length (k : Int) (n : Nat) : (marks8 k n).length = n := by simp [marks8]
theorem marks8_nth (k : Int) (n j : Nat) (h : j < n) : nth (marks8 k n) j = (k + j) % 256 := by simp [marks8, nth, h]

theorem eqI_step (zs ys : List Int) (k : Nat) (hk : k < zs.length) (hk' : k < ys.length) (h : nth zs k = nth ys k) : zs.drop k = ys.drop k ↔ zs.drop (k + 1) = ys.drop (k + 1) := by
  rw [drop_nth zs k hk, drop_nth ys k hk', h]; simp
theorem eqI_part (zs ys : List Int) (k : Nat) (h : nth zs k ≠ nth ys k) : zs ≠ ys := by
  intro e; subst e; exact h rfl

set_option maxRecDepth 100000 in
set_option maxHeartbeats 400000 in
theorem specSameTexts_any (A A' : Option Addr) (zs ys : List Int) (c c' : Nat) (w : World) (B B' : Nat) (h1 : Rd w B A (nums .i64 zs)) (h2 : Rd w B' A' (nums .i64 ys)) (hl : zs.length < 1000000000) (hl' : ys.length < 1000000000) :
    Calls Tryd.prog 23 #[.slice A zs.length c, .slice A' ys.length c'] w fun e w' => e = .returned (.bool (decide (zs = ys))) ∧ ∃ n, w' = w.drewN n := by
  by_cases hn : zs.length = ys.length
  · have hne : ((zs.length : Int) != (ys.length : Int)) = false := by simp [hn]
    have HN := Lib.hid hn
    have H1 := Lib.hid h1
    have H2 := Lib.hid h2
    clear hn h1 h2
    go_enter Tryd.func23, Tryd.ntmps23
    go_wp2
    go_loopw [5] (fun i wr => ∃ k n : Nat, k ≤ zs.length ∧ i = .int .i64 k ∧ Hid (zs = ys ↔ zs.drop k = ys.drop k) ∧ wr = w.drewN n) (fun i _ => zs.length - (intOf i).toNat)
    case atStart => exact ⟨0, 0, by omega, rfl, Lib.hid (by simp), rfl⟩
    case round =>
      obtain ⟨k, n, hk, rfl, hs, rfl⟩ := hrel
      by_cases hlt : k < zs.length
      · have hlt' : k < ys.length := by rw [← HN.out]; exact hlt
        obtain ⟨b, off, rfl, hb, hc⟩ := H1.out.int (by omega)
        have hc0 := hc k (by omega)
        obtain ⟨b', off', rfl, hb', hc'⟩ := H2.out.int (by omega)
        have hc1 := hc' k (by omega)
        clear hc hc'
        by_cases he : nth zs k = nth ys k
        · have hE := Lib.hid (eqI_step zs ys k hlt hlt' he)
          have hd : (nth zs k != nth ys k) = false := by simp [he]
          clear he
          go_wp2
          go_quiet (fail)
          go_wp2
          go_roundw
          case rel => exact ⟨k + 1, _, by omega, by go_num, Lib.hid (by rw [hs.out, hE.out]), rfl⟩
          case measure => first | omega | (simp [intOf]; omega)
        · have hE := Lib.hid (eqI_part zs ys k he)
          have hd : (nth zs k != nth ys k) = true := by simp [he]
          clear he
          go_wp2
          go_quiet (fail)
          go_wp2
          go_ret
          exact ⟨rbool (by simp [hE.out]), _, World.drewN_drewN _ _ _⟩
      · go_wp2
        go_ret
        refine ⟨rbool ?_, n, rfl⟩
        rw [eq_comm, decide_eq_true_iff, hs.out, List.drop_of_length_le (by omega), List.drop_of_length_le (by have := HN.out; omega)]
  · have hne : ((zs.length : Int) != (ys.length : Int)) = true := by simp; omega
    have HN := Lib.hid hn
    clear hn
    go_enter Tryd.func23, Tryd.ntmps23
    go_wp2
    go_ret
    exact ⟨rbool (by rw [eq_comm, decide_eq_false_iff_not]; intro e; exact HN.out (by rw [e])), 0, rfl⟩
set_option maxRecDepth 100000 in
set_option maxHeartbeats 400000 in
theorem lwNums_any (A A' : Option Addr) (zs ys : List Int) (c c' : Nat) (w : World) (B B' : Nat) (h1 : Rd w B A (nums .i64 zs)) (h2 : Rd w B' A' (nums .i64 ys)) (hl : zs.length < 1000000000) (hl' : ys.length < 1000000000) :
    Calls Tryd.prog 18 #[.slice A zs.length c, .slice A' ys.length c'] w fun e w' => e = .returned (.bool (decide (zs = ys))) ∧ ∃ n, w' = w.drewN n := by
  by_cases hn : zs.length = ys.length
  · have hne : ((zs.length : Int) != (ys.length : Int)) = false := by simp [hn]
    have HN := Lib.hid hn
    have H1 := Lib.hid h1
    have H2 := Lib.hid h2
    clear hn h1 h2
    go_enter Tryd.func18, Tryd.ntmps18
    go_wp2
    go_loopw [5] (fun i wr => ∃ k n : Nat, k ≤ zs.length ∧ i = .int .i64 k ∧ Hid (zs = ys ↔ zs.drop k = ys.drop k) ∧ wr = w.drewN n) (fun i _ => zs.length - (intOf i).toNat)
    case atStart => exact ⟨0, 0, by omega, rfl, Lib.hid (by simp), rfl⟩
    case round =>
      obtain ⟨k, n, hk, rfl, hs, rfl⟩ := hrel
      by_cases hlt : k < zs.length
      · have hlt' : k < ys.length := by rw [← HN.out]; exact hlt
        obtain ⟨b, off, rfl, hb, hc⟩ := H1.out.int (by omega)
        have hc0 := hc k (by omega)
        obtain ⟨b', off', rfl, hb', hc'⟩ := H2.out.int (by omega)
        have hc1 := hc' k (by omega)
        clear hc hc'
        by_cases he : nth zs k = nth ys k
        · have hE := Lib.hid (eqI_step zs ys k hlt hlt' he)
          have hd : (nth zs k != nth ys k) = false := by simp [he]
          clear he
          go_wp2
          go_quiet (fail)
          go_wp2
          go_roundw
          case rel => exact ⟨k + 1, _, by omega, by go_num, Lib.hid (by rw [hs.out, hE.out]), rfl⟩
          case measure => first | omega | (simp [intOf]; omega)
        · have hE := Lib.hid (eqI_part zs ys k he)
          have hd : (nth zs k != nth ys k) = true := by simp [he]
          clear he
          go_wp2
          go_quiet (fail)
          go_wp2
          go_ret
          exact ⟨rbool (by simp [hE.out]), _, World.drewN_drewN _ _ _⟩
      · go_wp2
        go_ret
        refine ⟨rbool ?_, n, rfl⟩
        rw [eq_comm, decide_eq_true_iff, hs.out, List.drop_of_length_le (by omega), List.drop_of_length_le (by have := HN.out; omega)]
  · have hne : ((zs.length : Int) != (ys.length : Int)) = true := by simp; omega
    have HN := Lib.hid hn
    clear hn
    go_enter Tryd.func18, Tryd.ntmps18
    go_wp2
    go_ret
    exact ⟨rbool (by rw [eq_comm, decide_eq_false_iff_not]; intro e; exact HN.out (by rw [e])), 0, rfl⟩

set_option maxRecDepth 100000 in
set_option maxHeartbeats 400000 in
theorem slicesEqualInt_any (A A' : Option Addr) (zs ys : List Int) (c c' : Nat) (w : World) (B B' : Nat) (h1 : Rd w B A (nums .i64 zs)) (h2 : Rd w B' A' (nums .i64 ys)) (hl : zs.length < 1000000000) (hl' : ys.length < 1000000000) :
    Calls Tryd.prog 48 #[.slice A zs.length c, .slice A' ys.length c'] w fun e w' => e = .returned (.bool (decide (zs = ys))) ∧ ∃ n, w' = w.drewN n := by
  by_cases hn : zs.length = ys.length
  · have hne : ((zs.length : Int) != (ys.length : Int)) = false := by simp [hn]
    have HN := Lib.hid hn
    have H1 := Lib.hid h1
    have H2 := Lib.hid h2
    clear hn h1 h2
    go_enter Tryd.func48, Tryd.ntmps48
    go_wp2
    go_loopw [13] (fun i wr => ∃ k n : Nat, k ≤ zs.length ∧ i = .int .i64 k ∧ Hid (zs = ys ↔ zs.drop k = ys.drop k) ∧ wr = w.drewN n) (fun i _ => zs.length - (intOf i).toNat)
    case atStart => exact ⟨0, 0, by omega, rfl, Lib.hid (by simp), rfl⟩
    case round =>
      obtain ⟨k, n, hk, rfl, hs, rfl⟩ := hrel
      by_cases hlt : k < zs.length
      · have hlt' : k < ys.length := by rw [← HN.out]; exact hlt
        obtain ⟨b, off, rfl, hb, hc⟩ := H1.out.int (by omega)
        have hc0 := hc k (by omega)
        obtain ⟨b', off', rfl, hb', hc'⟩ := H2.out.int (by omega)
        have hc1 := hc' k (by omega)
        clear hc hc'
        by_cases he : nth zs k = nth ys k
        · have hE := Lib.hid (eqI_step zs ys k hlt hlt' he)
          have hd : (nth zs k != nth ys k) = false := by simp [he]
          clear he
          go_wp2
          go_quiet (fail)
          go_wp2
          go_roundw
          case rel => exact ⟨k + 1, _, by omega, by go_num, Lib.hid (by rw [hs.out, hE.out]), rfl⟩
          case measure => first | omega | (simp [intOf]; omega)
        · have hE := Lib.hid (eqI_part zs ys k he)
          have hd : (nth zs k != nth ys k) = true := by simp [he]
          clear he
          go_wp2
          go_quiet (fail)
          go_wp2
          go_ret
          exact ⟨rbool (by simp [hE.out]), _, World.drewN_drewN _ _ _⟩
      · go_wp2
        go_ret
        refine ⟨rbool ?_, n, rfl⟩
        rw [eq_comm, decide_eq_true_iff, hs.out, List.drop_of_length_le (by omega), List.drop_of_length_le (by have := HN.out; omega)]
  · have hne : ((zs.length : Int) != (ys.length : Int)) = true := by simp; omega
    have HN := Lib.hid hn
    clear hn
    go_enter Tryd.func48, Tryd.ntmps48
    go_wp2
    go_ret
    exact ⟨rbool (by rw [eq_comm, decide_eq_false_iff_not]; intro e; exact HN.out (by rw [e])), 0, rfl⟩








/-! the same, said of values -/
end Go.Proofs.YtmkpbfghnkmcgaaDoor
