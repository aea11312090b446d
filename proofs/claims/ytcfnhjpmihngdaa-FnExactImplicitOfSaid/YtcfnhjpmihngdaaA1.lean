import Derived.Test.YtcfnhjpmihngdaaRows
import Derived.Test.YtcfnhjpmihngdaaB0
import Derived.WalkKit
import Derived.ProofKit
import Derived.OpenShut
import Derived.WalkSpells
namespace Go.Proofs.Ytcfnhjpmihngdaa
open Go.RowKit

set_option maxRecDepth 100000 in
set_option maxHeartbeats 400000 in
theorem l1In_any (v a b : Int) (w : World) :
    Calls Try.prog 7 #[.int .i64 v, .int .i64 a, .int .i64 b] w fun e w' => e = .returned (.bool (decide (a ≤ v ∧ v ≤ b))) ∧ w = w' := by
  by_cases h1 : a ≤ v
  all_goals by_cases h2 : v ≤ b
  all_goals
    go_enter Try.func7, Try.ntmps7
    go_wp2
    go_ret
    exact ⟨by simp_all, rfl⟩

/-- whether n is in one of the spans -/
def spans (n : Int) : List Int → Bool
  | a :: b :: r => (decide (a ≤ n) && decide (n ≤ b)) || spans n r
  | _ => false

theorem spans_step (n : Int) (zs : List Int) (k : Nat) (h : k + 1 < zs.length) :
    spans n (zs.drop k) = ((decide (nth zs k ≤ n) && decide (n ≤ nth zs (k+1))) || spans n (zs.drop (k + 2))) := by
  rw [drop_nth zs k (by omega), drop_nth zs (k + 1) (by omega)]
  rfl

theorem spans_end (n : Int) (zs : List Int) (k : Nat) (h : zs.length ≤ k + 1) : spans n (zs.drop k) = false := by
  have hl : (zs.drop k).length ≤ 1 := by simp; omega
  match zs.drop k, hl with
  | [], _ => rfl
  | [_], _ => rfl

set_option maxRecDepth 100000 in
set_option maxHeartbeats 400000 in
theorem within_any (n : Int) (A : Option Addr) (zs : List Int) (c : Nat) (w : World) (B : Nat) (hr : Rd w B A (nums .i64 zs)) (hl : zs.length ≤ 1000) :
    Calls Try.prog 10 #[.int .i64 n, .slice A zs.length c] w fun e w' => e = .returned (.bool (spans n zs)) ∧ w = w' := by
  go_enter Try.func10, Try.ntmps10
  go_wp2
  have HR := Lib.hid hr
  clear hr
  go_loop [5] (fun i => ∃ k : Nat, k ≤ zs.length + 1 ∧ i = .int .i64 k ∧ Hid (spans n zs = spans n (zs.drop k))) (fun i => zs.length + 1 - (intOf i).toNat)
  case atStart => exact ⟨0, by omega, rfl, rfl⟩
  case round =>
    obtain ⟨k, hk, rfl, hs⟩ := hrel
    by_cases hlt : k + 1 < zs.length
    · obtain ⟨b, off, rfl, hb, hc⟩ := HR.out.int (by omega)
      have hc0 := hc k (by omega)
      have hc1 := hc (k + 1) hlt
      clear hc
      have hstep := Lib.hid (spans_step n zs k hlt)
      by_cases h1 : nth zs k ≤ n
      · by_cases h2 : n ≤ nth zs (k+1)
        · go_wp2
          go_ret
          refine ⟨rbool ?_, rfl⟩
          rw [hs.out, hstep.out]; simp [h1, h2]
        · go_wp2
          go_round
          case rel => exact ⟨k + 2, by omega, by go_num, Lib.hid (by rw [hs.out, hstep.out]; simp [h1, h2])⟩
          case measure => simp [intOf]; omega
      · go_wp2
        go_round
        case rel => exact ⟨k + 2, by omega, by go_num, Lib.hid (by rw [hs.out, hstep.out]; simp [h1])⟩
        case measure => simp [intOf]; omega
    · go_wp2
      go_ret
      exact ⟨rbool (by rw [hs.out, spans_end _ _ _ (by omega)]), rfl⟩
end Go.Proofs.Ytcfnhjpmihngdaa
