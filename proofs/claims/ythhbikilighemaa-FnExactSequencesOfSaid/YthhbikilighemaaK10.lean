/- Chapter 5: the model's run with a place, the model's next kept level. -/
import Derived.Test.YthhbikilighemaaK1
import Derived.Test.YthhbikilighemaaO1
namespace Go.Proofs.Ythhbikilighemaa
open Go.RowKit Go.Maps

def idxI (R : List (List Int)) (p : Int) : Int := match idxR R p with | some i => (i : Int) | none => -1
theorem idxI_in {R : List (List Int)} {p : Int} {k : Nat} (h : k < R.length) (hp : p ∈ nthL R k) : idxI (R.drop k) p = 0 := by
  rw [drop_nthL R k h]; unfold idxI; rw [idxR_cons, if_pos hp]; rfl
theorem idxI_out {R : List (List Int)} {p : Int} {k : Nat} (h : k < R.length) (hp : p ∉ nthL R k) : idxI (R.drop k) p = if idxI (R.drop (k + 1)) p = -1 then -1 else idxI (R.drop (k + 1)) p + 1 := by
  rw [drop_nthL R k h]; unfold idxI; rw [idxR_cons, if_neg hp]
  cases idxR (R.drop (k + 1)) p with
  | none => simp
  | some i =>
    simp only [Option.map_some]
    rw [if_neg (by omega)]
    omega
theorem idxI_low (R : List (List Int)) (p : Int) : -1 ≤ idxI R p := by unfold idxI; split <;> omega
/-- the answer, told from k on -/
def withN (R : List (List Int)) (p : Int) (k : Nat) : Int := if idxI (R.drop k) p = -1 then -1 else idxI (R.drop k) p + k
theorem withN_in {R : List (List Int)} {p : Int} {k : Nat} (h : k < R.length) (hp : p ∈ nthL R k) : withN R p k = k := by unfold withN; rw [idxI_in h hp, if_neg (by omega)]; omega
theorem withN_out {R : List (List Int)} {p : Int} {k : Nat} (h : k < R.length) (hp : p ∉ nthL R k) : withN R p k = withN R p (k + 1) := by
  have l := idxI_low (R.drop (k + 1)) p
  unfold withN; rw [idxI_out h hp]
  by_cases e : idxI (R.drop (k + 1)) p = -1
  · rw [if_pos e, if_pos rfl, if_pos e]
  · rw [if_neg e, if_neg (by omega), if_neg e]; omega
theorem withN_end (R : List (List Int)) (p : Int) (k : Nat) (h : R.length ≤ k) : withN R p k = -1 := by unfold withN; rw [List.drop_of_length_le h]; rfl
theorem withN_zero (R : List (List Int)) (p : Int) : withN R p 0 = idxI R p := by
  have l := idxI_low R p
  unfold withN
  rw [List.drop_zero]
  split <;> omega
theorem mem_drop_at {xs : List Int} {j : Nat} (h : j < xs.length) (p : Int) (hx : nth xs j ≠ p) (hm : p ∉ xs.take j) : p ∉ xs.take (j + 1) := by
  rw [take_nth xs j h]
  intro hc
  rcases List.mem_append.1 hc with hc | hc
  · exact hm hc
  · simp at hc; exact hx hc.symm

set_option maxRecDepth 100000 in
set_option maxHeartbeats 2000000 in
theorem l5With_any (v : Value) (R : List (List Int)) (p : Int) (w : World) (B : Nat) (h : SeesSS w B .i64 v R) (hR : ∀ q ∈ R, q.length ≤ 600) (hl : R.length ≤ 600) :
    Calls Try.prog 66 #[v, .int .i64 p] w fun e w' => e = .returned (.int .i64 (idxI R p)) ∧ w = w' := by
  have RR := Lib.hid h
  have HR := Lib.hid hR
  obtain ⟨usR, ⟨AR, cR, rfl, _⟩, _⟩ := h
  rw [← withN_zero]
  obtain ⟨ans, hans⟩ : ∃ ans, Hid (ans = withN R p 0) := ⟨_, Lib.hid rfl⟩
  rw [← hans.out]
  clear hR
  go_enter Try.func66, Try.ntmps66
  go_wp2
  go_loop [5] (fun i => ∃ k : Nat, k ≤ R.length ∧ i = .int .i64 k ∧ Hid (ans = withN R p k)) (fun i => R.length + 1 - (intOf i).toNat)
  case atStart => exact ⟨0, by omega, rfl, hans⟩
  case round =>
    clear hans
    obtain ⟨k, hk, rfl, hs⟩ := hrel
    by_cases hlt : k < R.length
    · obtain ⟨bR, oR, cR', u, e1, hbR, hcu, su⟩ := RR.out.at_ k hlt
      cases e1
      have ql := HR.out _ (nthL_mem hlt)
      have FI := Lib.hid (fun hp => withN_in (R := R) (p := p) (k := k) hlt hp)
      have FO := Lib.hid (fun hp => withN_out (R := R) (p := p) (k := k) hlt hp)
      obtain ⟨q, hq⟩ : ∃ q, Hid (q = nthL R k) := ⟨_, Lib.hid rfl⟩
      rw [← hq.out] at su ql FI FO
      obtain ⟨Au, cu, rfl, ru⟩ := su
      have RU := Lib.hid ru
      have Z0 := Lib.hid (show p ∉ q.take 0 by simp)
      clear ru
      go_wp2
      go_loop [6] (fun i => ∃ j : Nat, j ≤ q.length ∧ i = .int .i64 j ∧ Hid (p ∉ q.take j)) (fun i => q.length + 1 - (intOf i).toNat)
      case atStart => exact ⟨0, by omega, rfl, Z0⟩
      case round =>
        clear Z0
        obtain ⟨j, hj, rfl, hz⟩ := hrel
        by_cases hjl : j < q.length
        · obtain ⟨bq, oq, rfl, _, hcq⟩ := RU.out.int (by omega)
          have hc0 := hcq j hjl
          have NM := Lib.hid (show nth q j ∈ q from nth_mem hjl)
          have MD := Lib.hid (fun hx => mem_drop_at hjl p hx hz.out)
          obtain ⟨x, hx⟩ : ∃ x, Hid (x = nth q j) := ⟨_, Lib.hid rfl⟩
          rw [← hx.out] at hc0 NM MD
          clear hcq
          by_cases hxp : x = p
          · have hxe : (x == p) = true := by simp [hxp]
            have E := Lib.hid (show ans = (k : Int) by rw [hs.out]; exact FI.out (by rw [← hxp]; exact NM.out))
            clear hxp
            go_wp2
            go_ret
            exact ⟨rint E.out.symm, rfl⟩
          · have hxe : (x == p) = false := by simpa using hxp
            have E := Lib.hid (MD.out hxp)
            clear hxp
            go_wp2
            go_round
            case rel => exact ⟨j + 1, by omega, by go_num, E⟩
            case measure => first | omega | (simp [intOf]; omega)
        · have E := Lib.hid (show ans = withN R p (k + 1) by rw [hs.out]; exact FO.out (by have := hz.out; rwa [List.take_of_length_le (by omega)] at this))
          go_wp2
          go_round
          case rel => exact ⟨k + 1, by omega, by go_num, E⟩
          case measure => first | omega | (simp [intOf]; omega)
    · have E := Lib.hid (show ans = -1 by rw [hs.out]; exact withN_end R p k (by omega))
      go_wp2
      go_ret
      exact ⟨rint E.out.symm, rfl⟩
set_option maxRecDepth 100000 in
set_option maxHeartbeats 1000000 in
theorem l5Kept_back (A : Option Addr) (ls : List Int) (c : Nat) (b : Int) (w : World) (B : Nat) (h1 : Rd w B A (nums .i64 ls)) (hl : ls.length ≤ 600) (p : Nat) (hp : p ≤ ls.length) :
    Calls Try.prog 67 #[.slice A ls.length c, .int .i64 ((p : Int) - 1), .int .i64 (-1), .int .i64 b] w fun e w' => e = .returned (.int .i64 (aheadN ls b p)) ∧ w = w' := by
  have H1 := Lib.hid h1
  clear h1
  obtain ⟨ans, hans⟩ : ∃ ans, Hid (ans = aheadN ls b p) := ⟨_, Lib.hid rfl⟩
  rw [← hans.out]
  go_enter Try.func67, Try.ntmps67
  go_wp2
  go_loop [1] (fun i => ∃ k : Nat, k ≤ ls.length ∧ i = .int .i64 ((k : Int) - 1) ∧ Hid (ans = aheadN ls b k)) (fun i => (intOf i + 1).toNat)
  case atStart => exact ⟨p, hp, rfl, hans⟩
  case round =>
    clear hans
    obtain ⟨k, hk, rfl, hs⟩ := hrel
    cases k with
    | zero =>
      have E := Lib.hid (show ans = b from hs.out)
      go_wp2
      go_ret
      exact ⟨rint E.out.symm, rfl⟩
    | succ k =>
      have hlt : k < ls.length := by omega
      obtain ⟨bb, oo, rfl, _, hc⟩ := H1.out.int (by omega)
      have hc0 := hc k hlt
      have AS := Lib.hid (show aheadN ls b (k + 1) = if nth ls k = -1 then aheadN ls b k else nth ls k from rfl)
      obtain ⟨x, hx⟩ : ∃ x, Hid (x = nth ls k) := ⟨_, Lib.hid rfl⟩
      rw [← hx.out] at hc0 AS
      have ek : (((k + 1 : Nat) : Int) - 1) = (k : Int) := by omega
      rw [ek]
      clear hc
      by_cases hg : x = -1
      · have hge : (x != -1) = false := by simp [hg]
        have E := Lib.hid (show ans = aheadN ls b k by rw [hs.out, AS.out, if_pos hg])
        clear hg
        go_wp2
        go_round
        case rel => exact ⟨k, by omega, by first | rfl | go_num, E⟩
        case measure => simp [intOf]; omega
      · have hge : (x != -1) = true := by simpa using hg
        have E := Lib.hid (show ans = x by rw [hs.out, AS.out, if_neg hg])
        clear hg
        go_wp2
        go_ret
        exact ⟨rint E.out.symm, rfl⟩
set_option maxRecDepth 100000 in
set_option maxHeartbeats 1000000 in
theorem l5Kept_on (A : Option Addr) (ls : List Int) (c : Nat) (b : Int) (w : World) (B : Nat) (h1 : Rd w B A (nums .i64 ls)) (hl : ls.length ≤ 600) (p : Nat) (hp : p < ls.length) :
    Calls Try.prog 67 #[.slice A ls.length c, .int .i64 ((p : Int) + 1), .int .i64 1, .int .i64 b] w fun e w' => e = .returned (.int .i64 (firstK b (ls.drop (p + 1)))) ∧ w = w' := by
  have H1 := Lib.hid h1
  clear h1
  obtain ⟨ans, hans⟩ : ∃ ans, Hid (ans = firstK b (ls.drop (p + 1))) := ⟨_, Lib.hid rfl⟩
  rw [← hans.out]
  go_enter Try.func67, Try.ntmps67
  go_wp2
  go_loop [1] (fun i => ∃ k : Nat, k ≤ ls.length ∧ i = .int .i64 k ∧ Hid (ans = firstK b (ls.drop k))) (fun i => ls.length + 1 - (intOf i).toNat)
  case atStart => exact ⟨p + 1, by omega, by simp, hans⟩
  case round =>
    clear hans
    obtain ⟨k, hk, rfl, hs⟩ := hrel
    by_cases hlt : k < ls.length
    · obtain ⟨bb, oo, rfl, _, hc⟩ := H1.out.int (by omega)
      have hc0 := hc k hlt
      have FS := Lib.hid (show firstK b (ls.drop k) = if nth ls k = -1 then firstK b (ls.drop (k + 1)) else nth ls k by rw [drop_nth ls k hlt]; rfl)
      obtain ⟨x, hx⟩ : ∃ x, Hid (x = nth ls k) := ⟨_, Lib.hid rfl⟩
      rw [← hx.out] at hc0 FS
      clear hc
      by_cases hg : x = -1
      · have hge : (x != -1) = false := by simp [hg]
        have E := Lib.hid (show ans = firstK b (ls.drop (k + 1)) by rw [hs.out, FS.out, if_pos hg])
        clear hg
        go_wp2
        go_round
        case rel => exact ⟨k + 1, by omega, by go_num, E⟩
        case measure => first | omega | (simp [intOf]; omega)
      · have hge : (x != -1) = true := by simpa using hg
        have E := Lib.hid (show ans = x by rw [hs.out, FS.out, if_neg hg])
        clear hg
        go_wp2
        go_ret
        exact ⟨rint E.out.symm, rfl⟩
    · have E := Lib.hid (show ans = b by rw [hs.out, List.drop_of_length_le (by omega)]; rfl)
      go_wp2
      go_ret
      exact ⟨rint E.out.symm, rfl⟩
end Go.Proofs.Ythhbikilighemaa
