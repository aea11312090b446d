/- The laws' own helpers: a copy of a slice, the comparison, the marks. -/
import Derived.Test.YtkkojemnbcddfaaDoorRows
import Derived.Test.YtkkojemnbcddfaaDoorB0
import Derived.WalkKit
import Derived.WalkSpells
import Derived.BigQuiet
import Derived.Deep.QuietTactic
import Derived.Laws.OwnMore
namespace Go.Proofs.YtkkojemnbcddfaaDoor
open Go.RowKit

theorem info_int64 : (Tryd.prog.info? 2).map (fun i => (i.zero, i.size, i.bytes)) = some (some (.int .i64 0), 1, 8) := by kernel_rfl
theorem info_uint8 : (Tryd.prog.info? 5).map (fun i => (i.zero, i.size, i.bytes)) = some (some (.int .u8 0), 1, 1) := by kernel_rfl
def marks (k : Int) (n : Nat) : List Int := (List.range n).map fun (j : Nat) => k + (j : Int)
theorem marks_length (k : Int) (n : Nat) : (marks k n).length = n := by simp [marks]
theorem marks_nth (k : Int) (n j : Nat) (h : j < n) : nth (marks k n) j = k + j := by simp [marks, nth, h]

def marks8 (k : Int) (n : Nat) : List Int := (List.range n).map fun (j : Nat) => (k + (j : Int)) % 256
theorem marks8_length (k : Int) (n : Nat) : (marks8 k n).length = n := by simp [marks8]
theorem marks8_nth (k : Int) (n j : Nat) (h : j < n) : nth (marks8 k n) j = (k + j) % 256 := by simp [marks8, nth, h]

theorem eqI_step (zs ys : List Int) (k : Nat) (hk : k < zs.length) (hk' : k < ys.length) (h : nth zs k = nth ys k) : zs.drop k = ys.drop k ↔ zs.drop (k + 1) = ys.drop (k + 1) := by
  rw [drop_nth zs k hk, drop_nth ys k hk', h]; simp
theorem eqI_part (zs ys : List Int) (k : Nat) (h : nth zs k ≠ nth ys k) : zs ≠ ys := by
  intro e; subst e; exact h rfl

set_option maxRecDepth 100000 in
set_option maxHeartbeats 400000 in
theorem eqInt64S_any (A A' : Option Addr) (zs ys : List Int) (c c' : Nat) (w : World) (B B' : Nat) (h1 : Rd w B A (nums .i64 zs)) (h2 : Rd w B' A' (nums .i64 ys)) (hl : zs.length < 1000000000) (hl' : ys.length < 1000000000) :
    Calls Tryd.prog 54 #[.slice A zs.length c, .slice A' ys.length c'] w fun e w' => e = .returned (.bool (decide (zs = ys))) ∧ ∃ n, w' = w.drewN n := by
  by_cases hn : zs.length = ys.length
  · have hne : ((zs.length : Int) != (ys.length : Int)) = false := by simp [hn]
    have HN := Lib.hid hn
    have H1 := Lib.hid h1
    have H2 := Lib.hid h2
    clear hn h1 h2
    go_enter Tryd.func54, Tryd.ntmps54
    go_wp2
    go_loopw [5] (fun i wr => ∃ k n : Nat, k ≤ zs.length ∧ i = .int .i64 k ∧ Hid (zs = ys ↔ zs.drop k = ys.drop k) ∧ wr = w.drewN n) (fun i _ => zs.length - (intOf i).toNat)
    case atStart => exact ⟨0, 0, by omega, rfl, Lib.hid (by simp), rfl⟩
    case round =>
      obtain ⟨k, n, hk, rfl, hs, rfl⟩ := hrel
      by_cases hlt : k < zs.length
      · have hlt' : k < ys.length := by rw [← HN.out]; exact hlt
        obtain ⟨b, off, rfl, hb, hc⟩ := H1.out.int (by omega)
        have hc0 := hc k (by omega)
        obtain ⟨b', off', rfl, hb', hc'⟩ := H2.out.int (by omega)
        have hc1 := hc' k (by omega)
        clear hc hc'
        by_cases he : nth zs k = nth ys k
        · have hE := Lib.hid (eqI_step zs ys k hlt hlt' he)
          have hd : (nth zs k != nth ys k) = false := by simp [he]
          clear he
          go_wp2
          go_quiet (fail)
          go_wp2
          go_roundw
          case rel => exact ⟨k + 1, _, by omega, by go_num, Lib.hid (by rw [hs.out, hE.out]), rfl⟩
          case measure => first | omega | (simp [intOf]; omega)
        · have hE := Lib.hid (eqI_part zs ys k he)
          have hd : (nth zs k != nth ys k) = true := by simp [he]
          clear he
          go_wp2
          go_quiet (fail)
          go_wp2
          go_ret
          exact ⟨rbool (by simp [hE.out]), _, World.drewN_drewN _ _ _⟩
      · go_wp2
        go_ret
        refine ⟨rbool ?_, n, rfl⟩
        rw [eq_comm, decide_eq_true_iff, hs.out, List.drop_of_length_le (by omega), List.drop_of_length_le (by have := HN.out; omega)]
  · have hne : ((zs.length : Int) != (ys.length : Int)) = true := by simp; omega
    have HN := Lib.hid hn
    clear hn
    go_enter Tryd.func54, Tryd.ntmps54
    go_wp2
    go_ret
    exact ⟨rbool (by rw [eq_comm, decide_eq_false_iff_not]; intro e; exact HN.out (by rw [e])), 0, rfl⟩
set_option maxRecDepth 100000 in
set_option maxHeartbeats 400000 in
theorem lwNums_any (A A' : Option Addr) (zs ys : List Int) (c c' : Nat) (w : World) (B B' : Nat) (h1 : Rd w B A (nums .i64 zs)) (h2 : Rd w B' A' (nums .i64 ys)) (hl : zs.length < 1000000000) (hl' : ys.length < 1000000000) :
    Calls Tryd.prog 20 #[.slice A zs.length c, .slice A' ys.length c'] w fun e w' => e = .returned (.bool (decide (zs = ys))) ∧ ∃ n, w' = w.drewN n := by
  by_cases hn : zs.length = ys.length
  · have hne : ((zs.length : Int) != (ys.length : Int)) = false := by simp [hn]
    have HN := Lib.hid hn
    have H1 := Lib.hid h1
    have H2 := Lib.hid h2
    clear hn h1 h2
    go_enter Tryd.func20, Tryd.ntmps20
    go_wp2
    go_loopw [5] (fun i wr => ∃ k n : Nat, k ≤ zs.length ∧ i = .int .i64 k ∧ Hid (zs = ys ↔ zs.drop k = ys.drop k) ∧ wr = w.drewN n) (fun i _ => zs.length - (intOf i).toNat)
    case atStart => exact ⟨0, 0, by omega, rfl, Lib.hid (by simp), rfl⟩
    case round =>
      obtain ⟨k, n, hk, rfl, hs, rfl⟩ := hrel
      by_cases hlt : k < zs.length
      · have hlt' : k < ys.length := by rw [← HN.out]; exact hlt
        obtain ⟨b, off, rfl, hb, hc⟩ := H1.out.int (by omega)
        have hc0 := hc k (by omega)
        obtain ⟨b', off', rfl, hb', hc'⟩ := H2.out.int (by omega)
        have hc1 := hc' k (by omega)
        clear hc hc'
        by_cases he : nth zs k = nth ys k
        · have hE := Lib.hid (eqI_step zs ys k hlt hlt' he)
          have hd : (nth zs k != nth ys k) = false := by simp [he]
          clear he
          go_wp2
          go_quiet (fail)
          go_wp2
          go_roundw
          case rel => exact ⟨k + 1, _, by omega, by go_num, Lib.hid (by rw [hs.out, hE.out]), rfl⟩
          case measure => first | omega | (simp [intOf]; omega)
        · have hE := Lib.hid (eqI_part zs ys k he)
          have hd : (nth zs k != nth ys k) = true := by simp [he]
          clear he
          go_wp2
          go_quiet (fail)
          go_wp2
          go_ret
          exact ⟨rbool (by simp [hE.out]), _, World.drewN_drewN _ _ _⟩
      · go_wp2
        go_ret
        refine ⟨rbool ?_, n, rfl⟩
        rw [eq_comm, decide_eq_true_iff, hs.out, List.drop_of_length_le (by omega), List.drop_of_length_le (by have := HN.out; omega)]
  · have hne : ((zs.length : Int) != (ys.length : Int)) = true := by simp; omega
    have HN := Lib.hid hn
    clear hn
    go_enter Tryd.func20, Tryd.ntmps20
    go_wp2
    go_ret
    exact ⟨rbool (by rw [eq_comm, decide_eq_false_iff_not]; intro e; exact HN.out (by rw [e])), 0, rfl⟩



set_option maxRecDepth 100000 in
set_option maxHeartbeats 400000 in
theorem toInt64S_any (A : Option Addr) (zs : List Int) (c : Nat) (w : World) (B : Nat) (h1 : Rd w B A (nums .i64 zs)) (hB : B ≤ w.heap.size) (hl : zs.length < 1000000000) :
    Calls Tryd.prog 52 #[.slice A zs.length c] w fun e w' => (∃ A' c', e = .returned (.slice A' zs.length c') ∧ w'.ownsRow w.heap.size 2 1 (.slice A' zs.length c') zs.length (nums .i64 zs)) ∧ Below w.heap.size w w' := by
  obtain ⟨i0, hi, hz0, hz1, hz2⟩ := info_parts info_int64
  have H1 := Lib.hid h1
  clear h1
  go_enter Tryd.func52, Tryd.ntmps52
  go_wp2_with (at_make; refine wpList_make_full _ rfl _ _ _ rfl w.heap.size 2 i0 (.int .i64 0) 1 Tryd.underlying24 hi hz0 hz1 _ _ _ _ zs.length rfl rfl rfl rfl (by rw [hz2]; omega) (by unfold maxLen; omega) (Nat.le_refl _) ?_; intro w1 hown1 hg1)
  have hb1 : Below w.heap.size w w1 := (Below.refl _ _).grown hg1 (Nat.le_refl _) (by simp)
  have HO := Lib.hid hown1
  clear hown1 hg1
  go_loopw [4] (fun i wr => ∃ k : Nat, k ≤ zs.length ∧ i = .int .i64 k ∧ Hid (∃ xs, wr.ownsRow w.heap.size 2 1 (.slice (some ⟨w.heap.size, 0, none⟩) zs.length zs.length) zs.length xs ∧ xs.take k = (nums .i64 zs).take k) ∧ Below w.heap.size w wr) (fun i _ => zs.length - (intOf i).toNat)
  case atStart => exact ⟨0, by omega, rfl, Lib.hid ⟨_, HO.out, by simp⟩, hb1⟩
  case round =>
    obtain ⟨k, hk, rfl, hs, hbr⟩ := hrel
    obtain ⟨xs, hox, hxs⟩ := hs.out
    clear hs
    by_cases hlt : k < zs.length
    · obtain ⟨b, off, rfl, hb, hc⟩ := (H1.out.below hbr hB).int (by omega)
      have hc0 := hc k hlt
      clear hc
      have hd := hox.cellAt k (by omega)
      have hf := hox.frozenAt k
      have HX := Lib.hid hox
      have HXS := Lib.hid hxs
      obtain ⟨u, hu⟩ : ∃ u, xs[k]? = some u := ⟨xs[k]'(by rw [hox.1]; omega), List.getElem?_eq_getElem _⟩
      rw [hu] at hd
      clear hu hox hxs
      go_wp2
      go_roundw
      case rel =>
        have st := HX.out.stored k (.int .i64 (nth zs k))
        exact ⟨k + 1, by omega, by go_num, Lib.hid ⟨_, st.1, set_take HXS.out (by rw [HX.out.1]; omega) (nums_get .i64 zs k hlt)⟩, hbr.grown st.2 hbr.size (by simp)⟩
      case measure => first | omega | (simp [intOf]; omega)
    · have HX := Lib.hid hox
      have HXS := Lib.hid hxs
      clear hox hxs
      go_wp2
      go_ret
      refine ⟨⟨_, _, rfl, ?_⟩, hbr⟩
      have e : xs = nums .i64 zs := by
        have h2 := HXS.out
        rwa [List.take_of_length_le (by have := HX.out.1; omega), List.take_of_length_le (by simp [nums]; omega)] at h2
      rw [← e]; exact HX.out

set_option maxRecDepth 100000 in
set_option maxHeartbeats 400000 in
theorem markInt64S_any (A : Option Addr) (cap : Nat) (xs : List Value) (n : Nat) (k : Int) (w : World) (base : Nat) (h1 : w.ownsRow base 2 1 (.slice A n cap) n xs) (hl : n < 1000000000) (hk0 : 0 ≤ k) (hk1 : k < 1000000000000) :
    Calls Tryd.prog 55 #[.slice A n cap, .int .i64 k] w fun e w' => (e = .returned (.int .i64 (k + n)) ∧ w'.ownsRow base 2 1 (.slice A n cap) n (nums .i64 (marks k n))) ∧ w.grownBy w' (Value.slice A n cap).ownBlock := by
  have HO := Lib.hid h1
  clear h1
  by_cases hn : n = 0
  · subst hn
    go_enter Tryd.func55, Tryd.ntmps55
    go_wp2
    refine wp_loop_rounds 1 ?_
    rw [rounds_succ]
    go_wp2
    go_ret
    refine ⟨⟨rint (by omega), ?_⟩, World.grownBy.refl w _⟩
    have e : xs = nums .i64 (marks k 0) := by
      have h := HO.out.1
      simp at h
      simp [h, marks, nums]
    rw [← e]
    exact HO.out
  · obtain ⟨g, rfl⟩ : ∃ g, A = some ⟨g, 0, none⟩ := by
      rcases HO.out.2 with ⟨_, h⟩ | ⟨g, _, _, h, _⟩
      · exact absurd h hn
      · exact ⟨g, by injection h⟩
    clear hn
    go_enter Tryd.func55, Tryd.ntmps55
    go_wp2
    go_loopw [1, 5] (fun kk i wr => ∃ j : Nat, j ≤ n ∧ i = .int .i64 j ∧ kk = .int .i64 (k + j) ∧ Hid (∃ xs, wr.ownsRow base 2 1 (.slice (some ⟨g, 0, none⟩) n cap) n xs ∧ xs.take j = (nums .i64 (marks k n)).take j) ∧ w.grownBy wr (some g)) (fun _ i _ => n - (intOf i).toNat)
    case atStart => exact ⟨0, by omega, rfl, by simp, Lib.hid ⟨_, HO.out, by simp⟩, World.grownBy.refl w _⟩
    case round =>
      obtain ⟨j, hj, rfl, rfl, hs, hbr⟩ := hrel
      obtain ⟨xs, hox, hxs⟩ := hs.out
      clear hs
      by_cases hlt : j < n
      · have hd := hox.cellAt j (by omega)
        have hf := hox.frozenAt j
        have HX := Lib.hid hox
        have HXS := Lib.hid hxs
        obtain ⟨u, hu⟩ : ∃ u, xs[j]? = some u := ⟨xs[j]'(by rw [hox.1]; omega), List.getElem?_eq_getElem _⟩
        rw [hu] at hd
        clear hu hox hxs
        go_wp2
        go_roundw
        case rel =>
          have st := HX.out.stored j (.int .i64 (k + j))
          have e := nums_get .i64 (marks k n) j (by rw [marks_length]; exact hlt)
          rw [marks_nth _ _ _ hlt] at e
          exact ⟨j + 1, by omega, by go_num, by go_num, Lib.hid ⟨_, st.1, set_take HXS.out (by rw [HX.out.1]; omega) e⟩, hbr.trans st.2⟩
        case measure => first | omega | (simp [intOf]; omega)
      · have HX := Lib.hid hox
        have HXS := Lib.hid hxs
        clear hox hxs
        obtain rfl : j = n := by omega
        go_wp2
        go_ret
        refine ⟨⟨rfl, ?_⟩, hbr⟩
        have e : xs = nums .i64 (marks k j) := by
          have h2 := HXS.out
          rwa [List.take_of_length_le (by have := HX.out.1; omega), List.take_of_length_le (by simp [nums, marks_length])] at h2
        rw [← e]; exact HX.out

set_option maxRecDepth 100000 in
set_option maxHeartbeats 400000 in
theorem heldInt64S_any (A : Option Addr) (cap : Nat) (n : Nat) (k : Int) (w : World) (B : Nat) (h1 : Rd w B A (nums .i64 (marks k n))) (hl : n < 1000000000) (hk0 : 0 ≤ k) (hk1 : k < 1000000000000) :
    Calls Tryd.prog 58 #[.slice A n cap, .int .i64 k] w fun e w' => e = .returned (.int .i64 (k + n)) ∧ w = w' := by
  have HR := Lib.hid h1
  clear h1
  go_enter Tryd.func58, Tryd.ntmps58
  go_wp2
  go_loop [1, 5] (fun kk i => ∃ j : Nat, j ≤ n ∧ i = .int .i64 j ∧ kk = .int .i64 (k + j)) (fun _ i => n - (intOf i).toNat)
  case atStart => exact ⟨0, by omega, rfl, by simp⟩
  case round =>
    obtain ⟨j, hj, rfl, rfl⟩ := hrel
    by_cases hlt : j < n
    · obtain ⟨b, off, rfl, hb, hc⟩ := HR.out.int (by rw [marks_length]; omega)
      have hc0 := hc j (by rw [marks_length]; omega)
      rw [marks_nth _ _ _ hlt] at hc0
      clear hc
      go_wp2
      go_round
      case rel => exact ⟨j + 1, by omega, by go_num, by go_num⟩
      case measure => first | omega | (simp [intOf]; omega)
    · obtain rfl : j = n := by omega
      go_wp2
      go_ret
      exact ⟨rfl, rfl⟩




/-! the same, said of values -/
theorem eqInt64S_same (v u : Value) (zs : List Int) (w : World) (B B' : Nat) (h1 : Sees w B .i64 v zs) (h2 : Sees w B' .i64 u zs) (hl : zs.length < 1000000000) :
    Calls Tryd.prog 54 #[v, u] w fun e w' => e = .returned (.bool true) ∧ ∃ n, w' = w.drewN n := by
  obtain ⟨A, c, rfl, hr⟩ := h1
  obtain ⟨A', c', rfl, hr'⟩ := h2
  exact (eqInt64S_any A A' zs zs c c' w B B' hr hr' hl hl).mono fun e w' ⟨he, hw⟩ => ⟨by rw [he]; simp, hw⟩
theorem toInt64S_own (v : Value) (zs : List Int) (w : World) (B : Nat) (h1 : Sees w B .i64 v zs) (hB : B ≤ w.heap.size) (hl : zs.length < 1000000000) :
    Calls Tryd.prog 52 #[v] w fun e w' => (∃ v', e = .returned v' ∧ Own w' w.heap.size w'.heap.size 2 .i64 v' zs) ∧ Below w.heap.size w w' := by
  obtain ⟨A, c, rfl, hr⟩ := h1
  exact (toInt64S_any A zs c w B hr hB hl).mono fun e w' ⟨⟨A', c', he, ho⟩, hb⟩ => ⟨⟨_, he, Own.mk_ ho rfl⟩, hb⟩
theorem markInt64S_own (v : Value) (zs : List Int) (k : Int) (w : World) (lo hi : Nat) (h1 : Own w lo hi 2 .i64 v zs) (hl : zs.length < 1000000000) (hk0 : 0 ≤ k) (hk1 : k < 1000000000000) :
    Calls Tryd.prog 55 #[v, .int .i64 k] w fun e w' => (e = .returned (.int .i64 (k + zs.length)) ∧ Own w' lo hi 2 .i64 v (marks k zs.length)) ∧ w.grownBy w' v.ownBlock := by
  obtain ⟨A, c, rfl⟩ := h1.form
  exact (markInt64S_any A c _ zs.length k w lo h1.1 hl hk0 hk1).mono fun e w' ⟨⟨he, ho⟩, hb⟩ => ⟨⟨he, by rw [marks_length]; exact ho, h1.2⟩, hb⟩
theorem heldInt64S_own (v : Value) (n : Nat) (k : Int) (w : World) (B : Nat) (h1 : Sees w B .i64 v (marks k n)) (hl : n < 1000000000) (hk0 : 0 ≤ k) (hk1 : k < 1000000000000) :
    Calls Tryd.prog 58 #[v, .int .i64 k] w fun e w' => e = .returned (.int .i64 (k + n)) ∧ w = w' := by
  obtain ⟨A, c, rfl, hr⟩ := h1
  rw [marks_length]
  exact heldInt64S_any A c n k w B hr hl hk0 hk1
end Go.Proofs.YtkkojemnbcddfaaDoor
