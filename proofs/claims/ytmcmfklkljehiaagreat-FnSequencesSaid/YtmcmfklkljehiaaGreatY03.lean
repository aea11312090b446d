/- Chapter 2, what needs no map and no table: forms, ligatures, what is removed. -/
import Derived.Test.YtmcmfklkljehiaaGreatRows
import Derived.Test.YtmcmfklkljehiaaGreatY01
import Derived.WalkKit
import Derived.WalkSpells
import Derived.BigQuiet
import Derived.Deep.QuietTactic
import Derived.Laws.OwnMore
namespace Go.Proofs.YtmcmfklkljehiaaGreat
open Go.RowKit

theorem info_int64 : (Tryz.prog.info? 2).map (fun i => (i.zero, i.size, i.bytes)) = some (some (.int .i64 0), 1, 8) := by kernel_rfl
theorem info_uint8 : (Tryz.prog.info? 5).map (fun i => (i.zero, i.size, i.bytes)) = some (some (.int .u8 0), 1, 1) := by kernel_rfl
def marks (k : Int) (n : Nat) : List Int := (List.range n).map fun (j : Nat) => k + (j : Int)
theorem marks_length (k : Int) (n : Nat) : (marks k n).length = n := by simp [marks]
theorem marks_nth (k : Int) (n j : Nat) (h : j < n) : nth (marks k n) j = k + j := by simp [marks, nth, h]

def marks8 (k : Int) (n : Nat) : List Int := (List.range n).map fun (j : Nat) => (k + (j : Int)) % 256
theorem marks8_length (k : Int) (n : Nat) : (marks8 k n).length = n := by simp [marks8]
theorem marks8_nth (k : Int) (n j : Nat) (h : j < n) : nth (marks8 k n) j = (k + j) % 256 := by simp [marks8, nth, h]

theorem eqI_step (zs ys : List Int) (k : Nat) (hk : k < zs.length) (hk' : k < ys.length) (h : nth zs k = nth ys k) : zs.drop k = ys.drop k ↔ zs.drop (k + 1) = ys.drop (k + 1) := by
  rw [drop_nth zs k hk, drop_nth ys k hk', h]; simp
theorem eqI_part (zs ys : List Int) (k : Nat) (h : nth zs k ≠ nth ys k) : zs ≠ ys := by
  intro e; subst e; exact h rfl

set_option maxRecDepth 100000 in
set_option maxHeartbeats 400000 in
theorem specSameTexts_any (A A' : Option Addr) (zs ys : List Int) (c c' : Nat) (w : World) (B B' : Nat) (h1 : Rd w B A (nums .i64 zs)) (h2 : Rd w B' A' (nums .i64 ys)) (hl : zs.length < 1000000000) (hl' : ys.length < 1000000000) :
    Calls Tryz.prog 38 #[.slice A zs.length c, .slice A' ys.length c'] w fun e w' => e = .returned (.bool (decide (zs = ys))) ∧ ∃ n, w' = w.drewN n := by
  by_cases hn : zs.length = ys.length
  · have hne : ((zs.length : Int) != (ys.length : Int)) = false := by simp [hn]
    have HN := Lib.hid hn
    have H1 := Lib.hid h1
    have H2 := Lib.hid h2
    clear hn h1 h2
    go_enter Tryz.func38, Tryz.ntmps38
    go_wp2
    go_loopw [5] (fun i wr => ∃ k n : Nat, k ≤ zs.length ∧ i = .int .i64 k ∧ Hid (zs = ys ↔ zs.drop k = ys.drop k) ∧ wr = w.drewN n) (fun i _ => zs.length - (intOf i).toNat)
    case atStart => exact ⟨0, 0, by omega, rfl, Lib.hid (by simp), rfl⟩
    case round =>
      obtain ⟨k, n, hk, rfl, hs, rfl⟩ := hrel
      by_cases hlt : k < zs.length
      · have hlt' : k < ys.length := by rw [← HN.out]; exact hlt
        obtain ⟨b, off, rfl, hb, hc⟩ := H1.out.int (by omega)
        have hc0 := hc k (by omega)
        obtain ⟨b', off', rfl, hb', hc'⟩ := H2.out.int (by omega)
        have hc1 := hc' k (by omega)
        clear hc hc'
        by_cases he : nth zs k = nth ys k
        · have hE := Lib.hid (eqI_step zs ys k hlt hlt' he)
          have hd : (nth zs k != nth ys k) = false := by simp [he]
          clear he
          go_wp2
          go_quiet (fail)
          go_wp2
          go_roundw
          case rel => exact ⟨k + 1, _, by omega, by go_num, Lib.hid (by rw [hs.out, hE.out]), rfl⟩
          case measure => first | omega | (simp [intOf]; omega)
        · have hE := Lib.hid (eqI_part zs ys k he)
          have hd : (nth zs k != nth ys k) = true := by simp [he]
          clear he
          go_wp2
          go_quiet (fail)
          go_wp2
          go_ret
          exact ⟨rbool (by simp [hE.out]), _, World.drewN_drewN _ _ _⟩
      · go_wp2
        go_ret
        refine ⟨rbool ?_, n, rfl⟩
        rw [eq_comm, decide_eq_true_iff, hs.out, List.drop_of_length_le (by omega), List.drop_of_length_le (by have := HN.out; omega)]
  · have hne : ((zs.length : Int) != (ys.length : Int)) = true := by simp; omega
    have HN := Lib.hid hn
    clear hn
    go_enter Tryz.func38, Tryz.ntmps38
    go_wp2
    go_ret
    exact ⟨rbool (by rw [eq_comm, decide_eq_false_iff_not]; intro e; exact HN.out (by rw [e])), 0, rfl⟩
set_option maxRecDepth 100000 in
set_option maxHeartbeats 400000 in
theorem lwNums_any (A A' : Option Addr) (zs ys : List Int) (c c' : Nat) (w : World) (B B' : Nat) (h1 : Rd w B A (nums .i64 zs)) (h2 : Rd w B' A' (nums .i64 ys)) (hl : zs.length < 1000000000) (hl' : ys.length < 1000000000) :
    Calls Tryz.prog 35 #[.slice A zs.length c, .slice A' ys.length c'] w fun e w' => e = .returned (.bool (decide (zs = ys))) ∧ ∃ n, w' = w.drewN n := by
  by_cases hn : zs.length = ys.length
  · have hne : ((zs.length : Int) != (ys.length : Int)) = false := by simp [hn]
    have HN := Lib.hid hn
    have H1 := Lib.hid h1
    have H2 := Lib.hid h2
    clear hn h1 h2
    go_enter Tryz.func35, Tryz.ntmps35
    go_wp2
    go_loopw [5] (fun i wr => ∃ k n : Nat, k ≤ zs.length ∧ i = .int .i64 k ∧ Hid (zs = ys ↔ zs.drop k = ys.drop k) ∧ wr = w.drewN n) (fun i _ => zs.length - (intOf i).toNat)
    case atStart => exact ⟨0, 0, by omega, rfl, Lib.hid (by simp), rfl⟩
    case round =>
      obtain ⟨k, n, hk, rfl, hs, rfl⟩ := hrel
      by_cases hlt : k < zs.length
      · have hlt' : k < ys.length := by rw [← HN.out]; exact hlt
        obtain ⟨b, off, rfl, hb, hc⟩ := H1.out.int (by omega)
        have hc0 := hc k (by omega)
        obtain ⟨b', off', rfl, hb', hc'⟩ := H2.out.int (by omega)
        have hc1 := hc' k (by omega)
        clear hc hc'
        by_cases he : nth zs k = nth ys k
        · have hE := Lib.hid (eqI_step zs ys k hlt hlt' he)
          have hd : (nth zs k != nth ys k) = false := by simp [he]
          clear he
          go_wp2
          go_quiet (fail)
          go_wp2
          go_roundw
          case rel => exact ⟨k + 1, _, by omega, by go_num, Lib.hid (by rw [hs.out, hE.out]), rfl⟩
          case measure => first | omega | (simp [intOf]; omega)
        · have hE := Lib.hid (eqI_part zs ys k he)
          have hd : (nth zs k != nth ys k) = true := by simp [he]
          clear he
          go_wp2
          go_quiet (fail)
          go_wp2
          go_ret
          exact ⟨rbool (by simp [hE.out]), _, World.drewN_drewN _ _ _⟩
      · go_wp2
        go_ret
        refine ⟨rbool ?_, n, rfl⟩
        rw [eq_comm, decide_eq_true_iff, hs.out, List.drop_of_length_le (by omega), List.drop_of_length_le (by have := HN.out; omega)]
  · have hne : ((zs.length : Int) != (ys.length : Int)) = true := by simp; omega
    have HN := Lib.hid hn
    clear hn
    go_enter Tryz.func35, Tryz.ntmps35
    go_wp2
    go_ret
    exact ⟨rbool (by rw [eq_comm, decide_eq_false_iff_not]; intro e; exact HN.out (by rw [e])), 0, rfl⟩

set_option maxRecDepth 100000 in
set_option maxHeartbeats 400000 in
theorem slicesEqualInt_any (A A' : Option Addr) (zs ys : List Int) (c c' : Nat) (w : World) (B B' : Nat) (h1 : Rd w B A (nums .i64 zs)) (h2 : Rd w B' A' (nums .i64 ys)) (hl : zs.length < 1000000000) (hl' : ys.length < 1000000000) :
    Calls Tryz.prog 67 #[.slice A zs.length c, .slice A' ys.length c'] w fun e w' => e = .returned (.bool (decide (zs = ys))) ∧ ∃ n, w' = w.drewN n := by
  by_cases hn : zs.length = ys.length
  · have hne : ((zs.length : Int) != (ys.length : Int)) = false := by simp [hn]
    have HN := Lib.hid hn
    have H1 := Lib.hid h1
    have H2 := Lib.hid h2
    clear hn h1 h2
    go_enter Tryz.func67, Tryz.ntmps67
    go_wp2
    go_loopw [13] (fun i wr => ∃ k n : Nat, k ≤ zs.length ∧ i = .int .i64 k ∧ Hid (zs = ys ↔ zs.drop k = ys.drop k) ∧ wr = w.drewN n) (fun i _ => zs.length - (intOf i).toNat)
    case atStart => exact ⟨0, 0, by omega, rfl, Lib.hid (by simp), rfl⟩
    case round =>
      obtain ⟨k, n, hk, rfl, hs, rfl⟩ := hrel
      by_cases hlt : k < zs.length
      · have hlt' : k < ys.length := by rw [← HN.out]; exact hlt
        obtain ⟨b, off, rfl, hb, hc⟩ := H1.out.int (by omega)
        have hc0 := hc k (by omega)
        obtain ⟨b', off', rfl, hb', hc'⟩ := H2.out.int (by omega)
        have hc1 := hc' k (by omega)
        clear hc hc'
        by_cases he : nth zs k = nth ys k
        · have hE := Lib.hid (eqI_step zs ys k hlt hlt' he)
          have hd : (nth zs k != nth ys k) = false := by simp [he]
          clear he
          go_wp2
          go_quiet (fail)
          go_wp2
          go_roundw
          case rel => exact ⟨k + 1, _, by omega, by go_num, Lib.hid (by rw [hs.out, hE.out]), rfl⟩
          case measure => first | omega | (simp [intOf]; omega)
        · have hE := Lib.hid (eqI_part zs ys k he)
          have hd : (nth zs k != nth ys k) = true := by simp [he]
          clear he
          go_wp2
          go_quiet (fail)
          go_wp2
          go_ret
          exact ⟨rbool (by simp [hE.out]), _, World.drewN_drewN _ _ _⟩
      · go_wp2
        go_ret
        refine ⟨rbool ?_, n, rfl⟩
        rw [eq_comm, decide_eq_true_iff, hs.out, List.drop_of_length_le (by omega), List.drop_of_length_le (by have := HN.out; omega)]
  · have hne : ((zs.length : Int) != (ys.length : Int)) = true := by simp; omega
    have HN := Lib.hid hn
    clear hn
    go_enter Tryz.func67, Tryz.ntmps67
    go_wp2
    go_ret
    exact ⟨rbool (by rw [eq_comm, decide_eq_false_iff_not]; intro e; exact HN.out (by rw [e])), 0, rfl⟩








/-! the same, said of values -/
end Go.Proofs.YtmcmfklkljehiaaGreat

namespace Go.Proofs.YtmcmfklkljehiaaGreat
open Go.RowKit

theorem within_lit2 (n a0 a1 : Int) (w : World) (t : TypeId) (g : Nat) (hg : w.heap.size = g) :
    Calls Tryz.prog 47 #[.int .i64 n, .slice (some ⟨g, 0, none⟩) 2 2] (w.alloc (.cells #[.int .i64 a0, .int .i64 a1] t)) fun e w' => e = .returned (.bool (spans n [a0, a1])) ∧ w.alloc (.cells #[.int .i64 a0, .int .i64 a1] t) = w' := by
  subst hg
  exact within_any n _ [a0, a1] 2 _ _ (Rd.lit w #[.int .i64 a0, .int .i64 a1] t) (by simp)
theorem within_lit4 (n a0 a1 a2 a3 : Int) (w : World) (t : TypeId) (g : Nat) (hg : w.heap.size = g) :
    Calls Tryz.prog 47 #[.int .i64 n, .slice (some ⟨g, 0, none⟩) 4 4] (w.alloc (.cells #[.int .i64 a0, .int .i64 a1, .int .i64 a2, .int .i64 a3] t)) fun e w' => e = .returned (.bool (spans n [a0, a1, a2, a3])) ∧ w.alloc (.cells #[.int .i64 a0, .int .i64 a1, .int .i64 a2, .int .i64 a3] t) = w' := by
  subst hg
  exact within_any n _ [a0, a1, a2, a3] 4 _ _ (Rd.lit w #[.int .i64 a0, .int .i64 a1, .int .i64 a2, .int .i64 a3] t) (by simp)
theorem within_lit6 (n a0 a1 a2 a3 a4 a5 : Int) (w : World) (t : TypeId) (g : Nat) (hg : w.heap.size = g) :
    Calls Tryz.prog 47 #[.int .i64 n, .slice (some ⟨g, 0, none⟩) 6 6] (w.alloc (.cells #[.int .i64 a0, .int .i64 a1, .int .i64 a2, .int .i64 a3, .int .i64 a4, .int .i64 a5] t)) fun e w' => e = .returned (.bool (spans n [a0, a1, a2, a3, a4, a5])) ∧ w.alloc (.cells #[.int .i64 a0, .int .i64 a1, .int .i64 a2, .int .i64 a3, .int .i64 a4, .int .i64 a5] t) = w' := by
  subst hg
  exact within_any n _ [a0, a1, a2, a3, a4, a5] 6 _ _ (Rd.lit w #[.int .i64 a0, .int .i64 a1, .int .i64 a2, .int .i64 a3, .int .i64 a4, .int .i64 a5] t) (by simp)
theorem within_lit8 (n a0 a1 a2 a3 a4 a5 a6 a7 : Int) (w : World) (t : TypeId) (g : Nat) (hg : w.heap.size = g) :
    Calls Tryz.prog 47 #[.int .i64 n, .slice (some ⟨g, 0, none⟩) 8 8] (w.alloc (.cells #[.int .i64 a0, .int .i64 a1, .int .i64 a2, .int .i64 a3, .int .i64 a4, .int .i64 a5, .int .i64 a6, .int .i64 a7] t)) fun e w' => e = .returned (.bool (spans n [a0, a1, a2, a3, a4, a5, a6, a7])) ∧ w.alloc (.cells #[.int .i64 a0, .int .i64 a1, .int .i64 a2, .int .i64 a3, .int .i64 a4, .int .i64 a5, .int .i64 a6, .int .i64 a7] t) = w' := by
  subst hg
  exact within_any n _ [a0, a1, a2, a3, a4, a5, a6, a7] 8 _ _ (Rd.lit w #[.int .i64 a0, .int .i64 a1, .int .i64 a2, .int .i64 a3, .int .i64 a4, .int .i64 a5, .int .i64 a6, .int .i64 a7] t) (by simp)
theorem within_lit10 (n a0 a1 a2 a3 a4 a5 a6 a7 a8 a9 : Int) (w : World) (t : TypeId) (g : Nat) (hg : w.heap.size = g) :
    Calls Tryz.prog 47 #[.int .i64 n, .slice (some ⟨g, 0, none⟩) 10 10] (w.alloc (.cells #[.int .i64 a0, .int .i64 a1, .int .i64 a2, .int .i64 a3, .int .i64 a4, .int .i64 a5, .int .i64 a6, .int .i64 a7, .int .i64 a8, .int .i64 a9] t)) fun e w' => e = .returned (.bool (spans n [a0, a1, a2, a3, a4, a5, a6, a7, a8, a9])) ∧ w.alloc (.cells #[.int .i64 a0, .int .i64 a1, .int .i64 a2, .int .i64 a3, .int .i64 a4, .int .i64 a5, .int .i64 a6, .int .i64 a7, .int .i64 a8, .int .i64 a9] t) = w' := by
  subst hg
  exact within_any n _ [a0, a1, a2, a3, a4, a5, a6, a7, a8, a9] 10 _ _ (Rd.lit w #[.int .i64 a0, .int .i64 a1, .int .i64 a2, .int .i64 a3, .int .i64 a4, .int .i64 a5, .int .i64 a6, .int .i64 a7, .int .i64 a8, .int .i64 a9] t) (by simp)
/-- a character -/
def isChr (c : Int) : Bool := decide ((0 ≤ c ∧ c ≤ 55295) ∨ (57344 ≤ c ∧ c ≤ 1114111))
theorem specIsChar_b (c : Int) (w : World) : Calls Tryz.prog 82 #[.int .i64 c] w fun e w' => e = .returned (.bool (isChr c)) ∧ w = w' := specIsChar_any c w
theorem isChar_b (c : Int) (w : World) : Calls Tryz.prog 87 #[.int .i64 c] w fun e w' => e = .returned (.bool (isChr c)) ∧ Below w.heap.size w w' := isChar_any c w
theorem eq_no {a b : Int} (h : a ≠ b) : (a == b) = false := by simpa using h
theorem eq_yes {a b : Int} (h : a = b) : (a == b) = true := by simpa using h
theorem ne_no {a b : Int} (h : a ≠ b) : (a != b) = true := by simpa using h
theorem ne_yes {a b : Int} (h : a = b) : (a != b) = false := by simpa using h
theorem agg2 {a a' b b' : Int} (h : a = a') (k : b = b') : Ending.returned (.agg #[.int .i64 a, .int .i64 b]) = .returned (.agg #[.int .i64 a', .int .i64 b']) := by rw [h, k]

/-- how many forms -/
def formsN (c : Int) : Int :=
  if c = 1569 then 1
  else if (1570 ≤ c ∧ c ≤ 1573) ∨ c = 1575 ∨ c = 1577 ∨ (1583 ≤ c ∧ c ≤ 1586) ∨ c = 1608 ∨ c = 1609 then 2
  else if (1569 ≤ c ∧ c ≤ 1594) ∨ (1601 ≤ c ∧ c ≤ 1610) then 4 else 0

theorem formsN_lo (c : Int) : 0 ≤ formsN c ∧ formsN c ≤ 4 := by unfold formsN; repeat (split; omega); omega

end Go.Proofs.YtmcmfklkljehiaaGreat
