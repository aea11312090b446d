/- slices.Index, slices.Contains at []int64. -/
import Derived.Test.YtmcmfklkljehiaaGreatY03
import Derived.Lib.AppendZerosOnto
import Derived.Lib.AppendZeros
import Derived.Lib.SliceRun
namespace Go.Proofs.YtmcmfklkljehiaaGreat
open Go.RowKit



set_option maxRecDepth 100000 in
set_option maxHeartbeats 1000000 in
theorem cloneInt_own (v : Value) (zs : List Int) (w : World) (B : Nat) (h : Sees w B .i64 v zs) (hB : B ≤ w.heap.size) (l : zs.length < 1000000000) :
    Calls Tryz.prog 52 #[v] w fun e w' => (∃ v', e = .returned v' ∧ Own w' w.heap.size w'.heap.size 2 .i64 v' zs) ∧ Below w.heap.size w w' := by
  obtain ⟨i0, hi, hz0, hz1, hz2⟩ := info_parts info_int64
  obtain ⟨A, c, rfl, hr⟩ := h
  have hnil := Lib.run_eql_slice_nil (P := Tryz.prog) w 24 2 A zs.length c 0 0 Tryz.underlying24
  have HR := Lib.hid (hr.below ((Below.refl B w).alloc hB (.cells #[] 2)) (Nat.le_refl _))
  have o0 := Lib.hid (World.ownsRow_lit (base := w.heap.size) (e := 2) (size := 1) w #[] 0 (Nat.le_refl _) (by unfold maxLen; omega) rfl)
  cases A with
  | none =>
    have hzs : zs = [] := by
      cases zs with
      | nil => rfl
      | cons z zs =>
        obtain ⟨_, _, e, _⟩ := hr 0 _ (nums_get .i64 (z :: zs) 0 (by simp))
        cases e
    subst hzs
    clear hr hnil
    rw [List.length_nil]
    have hnil := Lib.run_eql_slice_nil (P := Tryz.prog) w 24 2 none 0 c 0 0 Tryz.underlying24
    go_enter Tryz.func52, Tryz.ntmps52
    go_wp2
    go_ret
    exact ⟨⟨_, rfl, Own.nil _ _ _ _ _⟩, Below.refl _ _⟩
  | some a =>
    clear hr
    go_enter Tryz.func52, Tryz.ntmps52
    go_wp2_with (at_builtin; refine wpList_app rfl _ _ _ rfl w.heap.size Tryz.underlying24 hi hz0 hz1 hz2 rfl (by omega) rfl o0.out rfl HR.out (by rw [nums_length, Nat.mul_one]) (nums_one _ _) (by omega) (by omega) (by simp) ?_; intro v' w2 o2 g2 a2)
    go_ret
    refine ⟨⟨v', rfl, Own.mk_ (n := 0 + zs.length) (by simpa using o2) (by omega)⟩, ((Below.refl w.heap.size w).alloc (Nat.le_refl _) _).grown g2 (by simp) (fun k hk => (o0.out.lt k hk).1)⟩
end Go.Proofs.YtmcmfklkljehiaaGreat

namespace Go.Proofs.YtmcmfklkljehiaaGreat
open Go.RowKit Go.Maps

/-- where z stands first, or -1, from k on -/
def idxF (ks : List Int) (z : Int) (k : Nat) : Int := if (ks.drop k).any (fun x => decide (z = x)) then 0 else -1
set_option maxRecDepth 100000 in
set_option maxHeartbeats 1000000 in
theorem index_any (A : Option Addr) (ks : List Int) (c : Nat) (z : Int) (w : World) (B : Nat) (h1 : Rd w B A (nums .i64 ks)) (hl : ks.length ≤ 600) :
    Calls Tryz.prog 88 #[.slice A ks.length c, .int .i64 z] w fun e w' => (∃ n : Int, e = .returned (.int .i64 n) ∧ decide (0 ≤ n) = ks.any (fun x => decide (z = x))) ∧ w = w' := by
  have H1 := Lib.hid h1
  clear h1
  obtain ⟨ans, hans⟩ : ∃ x, Hid (x = ks.any (fun x => decide (z = x))) := ⟨_, Lib.hid rfl⟩
  rw [← hans.out]
  have EL : Hid (ans = (ks.drop 0).any (fun x => decide (z = x))) := hans
  go_enter Tryz.func88, Tryz.ntmps88
  go_wp2
  go_loop [8] (fun i => ∃ k : Nat, k ≤ ks.length ∧ i = .int .i64 k ∧ Hid (ans = (ks.drop k).any (fun x => decide (z = x)))) (fun i => ks.length - (intOf i).toNat)
  case atStart => exact ⟨0, by omega, rfl, EL⟩
  case round =>
    obtain ⟨k, hk, rfl, hs⟩ := hrel
    by_cases hlt : k < ks.length
    · obtain ⟨b', off, rfl, hb', hc⟩ := H1.out.int (by omega)
      have hc0 := hc k hlt
      clear hc
      have BC := Lib.hid (show (ks.drop k).any (fun x => decide (z = x)) = (decide (z = nth ks k) || (ks.drop (k + 1)).any (fun x => decide (z = x))) by rw [drop_nth ks k hlt]; rfl)
      obtain ⟨q, hq⟩ : ∃ q, Hid (q = nth ks k) := ⟨_, Lib.hid rfl⟩
      rw [← hq.out] at hc0 BC
      by_cases hzq : z = q
      · have nq : (z == q) = true := by simp [hzq]
        have E := Lib.hid (show ans = true by rw [hs.out, BC.out]; simp [hzq])
        clear hzq
        go_wp2
        go_ret
        exact ⟨⟨_, rfl, by rw [E.out]; simp⟩, rfl⟩
      · have nq : (z == q) = false := by simpa using hzq
        have E := Lib.hid (show ans = (ks.drop (k + 1)).any (fun x => decide (z = x)) by rw [hs.out, BC.out]; simp [hzq])
        clear hzq
        go_wp2
        go_round
        case rel => exact ⟨k + 1, by omega, by go_num, E⟩
        case measure => first | omega | (simp [intOf]; omega)
    · have E := Lib.hid (show ans = false by rw [hs.out, List.drop_of_length_le (by omega)]; rfl)
      go_wp2
      go_ret
      exact ⟨⟨_, rfl, by rw [E.out]; simp⟩, rfl⟩
theorem contains_any (A : Option Addr) (ks : List Int) (c : Nat) (z : Int) (w : World) (B : Nat) (h1 : Rd w B A (nums .i64 ks)) (hl : ks.length ≤ 600) :
    Calls Tryz.prog 70 #[.slice A ks.length c, .int .i64 z] w fun e w' => e = .returned (.bool (ks.any (fun x => decide (z = x)))) ∧ w = w' := by
  have H1 := Lib.hid h1
  clear h1
  go_enter Tryz.func70, Tryz.ntmps70
  go_wp2_with fail
  refine (index_any A ks c z w B H1.out hl).mono ?_
  rintro e w' ⟨⟨n, rfl, hn⟩, rfl⟩
  have HN := Lib.hid hn
  clear hn
  go_wp2
  go_ret
  exact ⟨rbool (by rw [← HN.out]), rfl⟩
end Go.Proofs.YtmcmfklkljehiaaGreat
