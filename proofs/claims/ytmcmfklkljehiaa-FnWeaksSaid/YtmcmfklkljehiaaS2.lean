/- slices.Index, slices.Contains at []int64. -/
import Derived.Test.YtmcmfklkljehiaaH1
namespace Go.Proofs.Ytmcmfklkljehiaa
open Go.RowKit Go.Maps

/-- where z stands first, or -1, from k on -/
def idxF (ks : List Int) (z : Int) (k : Nat) : Int := if (ks.drop k).any (fun x => decide (z = x)) then 0 else -1
set_option maxRecDepth 100000 in
set_option maxHeartbeats 1000000 in
theorem index_any (A : Option Addr) (ks : List Int) (c : Nat) (z : Int) (w : World) (B : Nat) (h1 : Rd w B A (nums .i64 ks)) (hl : ks.length ≤ 600) :
    Calls Try.prog 59 #[.slice A ks.length c, .int .i64 z] w fun e w' => (∃ n : Int, e = .returned (.int .i64 n) ∧ decide (0 ≤ n) = ks.any (fun x => decide (z = x))) ∧ w = w' := by
  have H1 := Lib.hid h1
  clear h1
  obtain ⟨ans, hans⟩ : ∃ x, Hid (x = ks.any (fun x => decide (z = x))) := ⟨_, Lib.hid rfl⟩
  rw [← hans.out]
  have EL : Hid (ans = (ks.drop 0).any (fun x => decide (z = x))) := hans
  go_enter Try.func59, Try.ntmps59
  go_wp2
  go_loop [8] (fun i => ∃ k : Nat, k ≤ ks.length ∧ i = .int .i64 k ∧ Hid (ans = (ks.drop k).any (fun x => decide (z = x)))) (fun i => ks.length - (intOf i).toNat)
  case atStart => exact ⟨0, by omega, rfl, EL⟩
  case round =>
    obtain ⟨k, hk, rfl, hs⟩ := hrel
    by_cases hlt : k < ks.length
    · obtain ⟨b', off, rfl, hb', hc⟩ := H1.out.int (by omega)
      have hc0 := hc k hlt
      clear hc
      have BC := Lib.hid (show (ks.drop k).any (fun x => decide (z = x)) = (decide (z = nth ks k) || (ks.drop (k + 1)).any (fun x => decide (z = x))) by rw [drop_nth ks k hlt]; rfl)
      obtain ⟨q, hq⟩ : ∃ q, Hid (q = nth ks k) := ⟨_, Lib.hid rfl⟩
      rw [← hq.out] at hc0 BC
      by_cases hzq : z = q
      · have nq : (z == q) = true := by simp [hzq]
        have E := Lib.hid (show ans = true by rw [hs.out, BC.out]; simp [hzq])
        clear hzq
        go_wp2
        go_ret
        exact ⟨⟨_, rfl, by rw [E.out]; simp⟩, rfl⟩
      · have nq : (z == q) = false := by simpa using hzq
        have E := Lib.hid (show ans = (ks.drop (k + 1)).any (fun x => decide (z = x)) by rw [hs.out, BC.out]; simp [hzq])
        clear hzq
        go_wp2
        go_round
        case rel => exact ⟨k + 1, by omega, by go_num, E⟩
        case measure => first | omega | (simp [intOf]; omega)
    · have E := Lib.hid (show ans = false by rw [hs.out, List.drop_of_length_le (by omega)]; rfl)
      go_wp2
      go_ret
      exact ⟨⟨_, rfl, by rw [E.out]; simp⟩, rfl⟩
theorem contains_any (A : Option Addr) (ks : List Int) (c : Nat) (z : Int) (w : World) (B : Nat) (h1 : Rd w B A (nums .i64 ks)) (hl : ks.length ≤ 600) :
    Calls Try.prog 55 #[.slice A ks.length c, .int .i64 z] w fun e w' => e = .returned (.bool (ks.any (fun x => decide (z = x)))) ∧ w = w' := by
  have H1 := Lib.hid h1
  clear h1
  go_enter Try.func55, Try.ntmps55
  go_wp2_with fail
  refine (index_any A ks c z w B H1.out hl).mono ?_
  rintro e w' ⟨⟨n, rfl, hn⟩, rfl⟩
  have HN := Lib.hid hn
  clear hn
  go_wp2
  go_ret
  exact ⟨rbool (by rw [← HN.out]), rfl⟩
end Go.Proofs.Ytmcmfklkljehiaa
