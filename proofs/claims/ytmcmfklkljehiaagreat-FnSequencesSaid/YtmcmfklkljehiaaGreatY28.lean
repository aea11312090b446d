/- Chapter 5: the model's run with a place, the model's next kept level. -/
import Derived.Test.YtmcmfklkljehiaaGreatY27
import Derived.BigQuiet
import Derived.Test.YtmcmfklkljehiaaGreatY06
namespace Go.Proofs.YtmcmfklkljehiaaGreat
open Go.RowKit Go.Maps

theorem odd_tmod (n : Int) : (n.tmod 2 != 0) = !decide (n % 2 = 0) := by
  have h : n.tmod 2 = 0 ↔ n % 2 = 0 := by
    rw [Int.tmod_eq_emod]
    split
    · simp
    · rename_i hn
      simp at hn
      omega
  by_cases h0 : n % 2 = 0
  · simp [h.2 h0, h0]
  · have : n.tmod 2 ≠ 0 := fun e => h0 (h.1 e)
    simp [this, h0]

theorem sideOf_any (n : Int) (w : World) : Calls Tryz.prog 14 #[.int .i64 n] w fun e w' => e = .returned (.int .i64 (sideN n)) ∧ w = w' := by
  have hm := odd_tmod n
  by_cases h : n % 2 = 0
  · have E : sideN n = 0 := by unfold sideN; rw [if_pos h]
    rw [decide_eq_true h] at hm
    clear h
    go_enter Tryz.func14, Tryz.ntmps14
    go_wp2
    go_ret
    exact ⟨rint E.symm, rfl⟩
  · have E : sideN n = 1 := by unfold sideN; rw [if_neg h]
    rw [decide_eq_false h] at hm
    clear h
    go_enter Tryz.func14, Tryz.ntmps14
    go_wp2
    go_ret
    exact ⟨rint E.symm, rfl⟩
theorem sideOf_val (n : Int) (w : World) (_ : (Lit.int .i64 n).wf = true) : Calls Tryz.prog 14 #[.int .i64 n] w fun e w' => e = .returned (.int .i64 (sideN n)) ∧ Below w.heap.size w w' :=
  (sideOf_any n w).mono fun _ _ ⟨he, hw⟩ => ⟨he, by subst hw; exact Below.refl _ _⟩
theorem l5Odd_any (n : Int) (w : World) : Calls Tryz.prog 37 #[.int .i64 n] w fun e w' => e = .returned (.bool (!decide (n % 2 = 0))) ∧ w = w' := by
  have hm := odd_tmod n
  by_cases h : n % 2 = 0
  · rw [decide_eq_true h] at hm ⊢
    clear h
    go_enter Tryz.func37, Tryz.ntmps37
    go_wp2
    go_ret
    exact ⟨rbool (by simp), rfl⟩
  · rw [decide_eq_false h] at hm ⊢
    clear h
    go_enter Tryz.func37, Tryz.ntmps37
    go_wp2
    go_ret
    exact ⟨rbool (by simp), rfl⟩
theorem specSideOf_any (n : Int) (w : World) : Calls Tryz.prog 15 #[.int .i64 n] w fun e w' => e = .returned (.int .i64 (sideN n)) ∧ w = w' := by
  by_cases h : n % 2 = 0
  · have E := Lib.hid (show sideN n = 0 by unfold sideN; rw [if_pos h])
    have D := Lib.hid (decide_eq_true h)
    clear h
    go_enter Tryz.func15, Tryz.ntmps15
    go_wp2_with (go_at_call 37; refine (l5Odd_any _ _).mono ?_; rintro e w' ⟨rfl, rfl⟩; rw [D.out])
    go_ret
    exact ⟨rint E.out.symm, rfl⟩
  · have E := Lib.hid (show sideN n = 1 by unfold sideN; rw [if_neg h])
    have D := Lib.hid (decide_eq_false h)
    clear h
    go_enter Tryz.func15, Tryz.ntmps15
    go_wp2_with (go_at_call 37; refine (l5Odd_any _ _).mono ?_; rintro e w' ⟨rfl, rfl⟩; rw [D.out])
    go_ret
    exact ⟨rint E.out.symm, rfl⟩
theorem specSideOf_val (n : Int) (w : World) (_ : (Lit.int .i64 n).wf = true) : Calls Tryz.prog 15 #[.int .i64 n] w fun e w' => e = .returned (.int .i64 (sideN n)) ∧ Below w.heap.size w w' :=
  (specSideOf_any n w).mono fun _ _ ⟨he, hw⟩ => ⟨he, by subst hw; exact Below.refl _ _⟩
theorem l1Max_any (a b : Int) (w : World) : Calls Tryz.prog 66 #[.int .i64 a, .int .i64 b] w fun e w' => e = .returned (.int .i64 (mx a b)) ∧ w = w' := by
  by_cases h : b < a
  · have E := Lib.hid (show mx a b = a by unfold mx; rw [if_pos h])
    go_enter Tryz.func66, Tryz.ntmps66
    go_wp2
    go_ret
    exact ⟨rint E.out.symm, rfl⟩
  · have E := Lib.hid (show mx a b = b by unfold mx; rw [if_neg h])
    go_enter Tryz.func66, Tryz.ntmps66
    go_wp2
    go_ret
    exact ⟨rint E.out.symm, rfl⟩

set_option maxRecDepth 100000 in
set_option maxHeartbeats 1000000 in
theorem keptAmong_any (A : Option Addr) (ls : List Int) (c : Nat) (w : World) (B : Nat) (h1 : Rd w B A (nums .i64 ls)) (hB : B ≤ w.heap.size) (hl : ls.length ≤ 600) :
    Calls Tryz.prog 51 #[.slice A ls.length c] w fun e w' => (∃ v, e = .returned v ∧ Own w' w.heap.size w'.heap.size 2 .i64 v (keptL ls)) ∧ Below w.heap.size w w' := by
  obtain ⟨i0, hi, hz0, hz1, hz2⟩ := info_parts info_int64
  have H1 := Lib.hid h1
  clear h1
  obtain ⟨n, hn⟩ : ∃ n, Hid (n = ls.length) := ⟨_, Lib.hid rfl⟩
  rw [← hn.out] at hl ⊢
  have O0 : Hid (w.ownsRow w.heap.size 2 1 (.slice none 0 0) (keptN ls 0).length (nums .i64 (keptN ls 0))) := Lib.hid (World.ownsRow_nil _ _ _ _)
  have B0 := Lib.hid (Below.refl w.heap.size w)
  go_enter Tryz.func51, Tryz.ntmps51
  go_wp2
  go_loopw [3, 8] (fun v i wr => ∃ k : Nat, k ≤ n ∧ i = .int .i64 k ∧ Hid (wr.ownsRow w.heap.size 2 1 v (keptN ls k).length (nums .i64 (keptN ls k))) ∧ Hid (Below w.heap.size w wr)) (fun _ i _ => n - (intOf i).toNat)
  case atStart => exact ⟨0, by omega, rfl, O0, B0⟩
  case round =>
    clear O0 B0
    obtain ⟨k, hk, rfl, ho, hbr⟩ := hrel
    by_cases hlt : k < n
    · obtain ⟨b, off, rfl, hb, hc⟩ := (H1.out.below hbr.out (by omega)).int (by rw [← hn.out]; omega)
      have hc0 := hc k (by rw [← hn.out]; exact hlt)
      have kl := keptN_len ls k
      clear hc
      by_cases hg : nth ls k = -1
      · have E := Lib.hid (keptN_gone hg)
        rw [hg] at hc0
        have HO := Lib.hid (show wr.ownsRow w.heap.size 2 1 _ (keptN ls (k + 1)).length (nums .i64 (keptN ls (k + 1))) by rw [E.out]; exact ho.out)
        clear hg ho
        go_wp2
        go_roundw
        case rel => exact ⟨k + 1, by omega, by go_num, HO, hbr⟩
        case measure => first | omega | (simp [intOf]; omega)
      · have E := Lib.hid (keptN_kept hg)
        have hne : (nth ls k != -1) = true := by simpa using hg
        obtain ⟨q, hq⟩ : ∃ q, Hid (q = nth ls k) := ⟨_, Lib.hid rfl⟩
        rw [← hq.out] at hc0 hne
        clear hg
        go_wp2_with (at_builtin; go_loud (refine wpList_app rfl _ _ _ rfl w.heap.size Tryz.underlying24 hi hz0 hz1 hz2 rfl (by omega) rfl (ho.out.alloc _) rfl (Rd.lit wr #[.int .i64 k] _) (m := 1) rfl (nums_one .i64 [(k : Int)]) (by omega) (by omega) (by have := hbr.out.size; simp; omega) ?_); intro v' w5 o5 g5 a5; obtain ⟨A5, c5, rfl⟩ := own_form o5)
        have gg : wr.grownBy w5 _ := (World.grownBy_alloc wr _ _).trans g5
        have P5 : Hid (w5.ownsRow w.heap.size 2 1 (.slice A5 ((keptN ls k).length + 1) c5) (keptN ls (k + 1)).length (nums .i64 (keptN ls (k + 1)))) := Lib.hid (by rw [E.out]; exact own_app1 o5 rfl)
        have B5 := Lib.hid (hbr.out.grown gg hbr.out.size (fun b hb => (ho.out.lt b hb).1))
        clear o5 g5 a5 gg ho
        go_roundw
        case rel => exact ⟨k + 1, by omega, by go_num, P5, B5⟩
        case measure => first | omega | (simp [intOf]; omega)
    · have e : k = ls.length := by rw [← hn.out]; omega
      have HO := Lib.hid (show Own wr w.heap.size wr.heap.size 2 .i64 _ (keptL ls) from Own.mk_ (by have := ho.out; rw [e] at this; exact this) rfl)
      obtain ⟨A5, c5, rfl⟩ := own_form ho.out
      clear e ho
      go_wp2
      go_ret
      exact ⟨⟨_, rfl, HO.out⟩, hbr.out⟩
end Go.Proofs.YtmcmfklkljehiaaGreat

namespace Go.Proofs.YtmcmfklkljehiaaGreat
open Go.RowKit Go.Maps

def idxI (R : List (List Int)) (p : Int) : Int := match idxR R p with | some i => (i : Int) | none => -1
theorem idxI_in {R : List (List Int)} {p : Int} {k : Nat} (h : k < R.length) (hp : p ∈ nthL R k) : idxI (R.drop k) p = 0 := by
  rw [drop_nthL R k h]; unfold idxI; rw [idxR_cons, if_pos hp]; rfl
theorem idxI_out {R : List (List Int)} {p : Int} {k : Nat} (h : k < R.length) (hp : p ∉ nthL R k) : idxI (R.drop k) p = if idxI (R.drop (k + 1)) p = -1 then -1 else idxI (R.drop (k + 1)) p + 1 := by
  rw [drop_nthL R k h]; unfold idxI; rw [idxR_cons, if_neg hp]
  cases idxR (R.drop (k + 1)) p with
  | none => simp
  | some i =>
    simp only [Option.map_some]
    rw [if_neg (by omega)]
    omega
theorem idxI_low (R : List (List Int)) (p : Int) : -1 ≤ idxI R p := by unfold idxI; split <;> omega
/-- the answer, told from k on -/
def withN (R : List (List Int)) (p : Int) (k : Nat) : Int := if idxI (R.drop k) p = -1 then -1 else idxI (R.drop k) p + k
theorem withN_in {R : List (List Int)} {p : Int} {k : Nat} (h : k < R.length) (hp : p ∈ nthL R k) : withN R p k = k := by unfold withN; rw [idxI_in h hp, if_neg (by omega)]; omega
theorem withN_out {R : List (List Int)} {p : Int} {k : Nat} (h : k < R.length) (hp : p ∉ nthL R k) : withN R p k = withN R p (k + 1) := by
  have l := idxI_low (R.drop (k + 1)) p
  unfold withN; rw [idxI_out h hp]
  by_cases e : idxI (R.drop (k + 1)) p = -1
  · rw [if_pos e, if_pos rfl, if_pos e]
  · rw [if_neg e, if_neg (by omega), if_neg e]; omega
theorem withN_end (R : List (List Int)) (p : Int) (k : Nat) (h : R.length ≤ k) : withN R p k = -1 := by unfold withN; rw [List.drop_of_length_le h]; rfl
theorem withN_zero (R : List (List Int)) (p : Int) : withN R p 0 = idxI R p := by
  have l := idxI_low R p
  unfold withN
  rw [List.drop_zero]
  split <;> omega
theorem mem_drop_at {xs : List Int} {j : Nat} (h : j < xs.length) (p : Int) (hx : nth xs j ≠ p) (hm : p ∉ xs.take j) : p ∉ xs.take (j + 1) := by
  rw [take_nth xs j h]
  intro hc
  rcases List.mem_append.1 hc with hc | hc
  · exact hm hc
  · simp at hc; exact hx hc.symm

set_option maxRecDepth 100000 in
set_option maxHeartbeats 2000000 in
theorem l5With_any (v : Value) (R : List (List Int)) (p : Int) (w : World) (B : Nat) (h : SeesSS w B .i64 v R) (hR : ∀ q ∈ R, q.length ≤ 600) (hl : R.length ≤ 600) :
    Calls Tryz.prog 64 #[v, .int .i64 p] w fun e w' => e = .returned (.int .i64 (idxI R p)) ∧ w = w' := by
  have RR := Lib.hid h
  have HR := Lib.hid hR
  obtain ⟨usR, ⟨AR, cR, rfl, _⟩, _⟩ := h
  rw [← withN_zero]
  obtain ⟨ans, hans⟩ : ∃ ans, Hid (ans = withN R p 0) := ⟨_, Lib.hid rfl⟩
  rw [← hans.out]
  clear hR
  go_enter Tryz.func64, Tryz.ntmps64
  go_wp2
  go_loop [5] (fun i => ∃ k : Nat, k ≤ R.length ∧ i = .int .i64 k ∧ Hid (ans = withN R p k)) (fun i => R.length + 1 - (intOf i).toNat)
  case atStart => exact ⟨0, by omega, rfl, hans⟩
  case round =>
    clear hans
    obtain ⟨k, hk, rfl, hs⟩ := hrel
    by_cases hlt : k < R.length
    · obtain ⟨bR, oR, cR', u, e1, hbR, hcu, su⟩ := RR.out.at_ k hlt
      cases e1
      have ql := HR.out _ (nthL_mem hlt)
      have FI := Lib.hid (fun hp => withN_in (R := R) (p := p) (k := k) hlt hp)
      have FO := Lib.hid (fun hp => withN_out (R := R) (p := p) (k := k) hlt hp)
      obtain ⟨q, hq⟩ : ∃ q, Hid (q = nthL R k) := ⟨_, Lib.hid rfl⟩
      rw [← hq.out] at su ql FI FO
      obtain ⟨Au, cu, rfl, ru⟩ := su
      have RU := Lib.hid ru
      have Z0 := Lib.hid (show p ∉ q.take 0 by simp)
      clear ru
      go_wp2
      go_loop [6] (fun i => ∃ j : Nat, j ≤ q.length ∧ i = .int .i64 j ∧ Hid (p ∉ q.take j)) (fun i => q.length + 1 - (intOf i).toNat)
      case atStart => exact ⟨0, by omega, rfl, Z0⟩
      case round =>
        clear Z0
        obtain ⟨j, hj, rfl, hz⟩ := hrel
        by_cases hjl : j < q.length
        · obtain ⟨bq, oq, rfl, _, hcq⟩ := RU.out.int (by omega)
          have hc0 := hcq j hjl
          have NM := Lib.hid (show nth q j ∈ q from nth_mem hjl)
          have MD := Lib.hid (fun hx => mem_drop_at hjl p hx hz.out)
          obtain ⟨x, hx⟩ : ∃ x, Hid (x = nth q j) := ⟨_, Lib.hid rfl⟩
          rw [← hx.out] at hc0 NM MD
          clear hcq
          by_cases hxp : x = p
          · have hxe : (x == p) = true := by simp [hxp]
            have E := Lib.hid (show ans = (k : Int) by rw [hs.out]; exact FI.out (by rw [← hxp]; exact NM.out))
            clear hxp
            go_wp2
            go_ret
            exact ⟨rint E.out.symm, rfl⟩
          · have hxe : (x == p) = false := by simpa using hxp
            have E := Lib.hid (MD.out hxp)
            clear hxp
            go_wp2
            go_round
            case rel => exact ⟨j + 1, by omega, by go_num, E⟩
            case measure => first | omega | (simp [intOf]; omega)
        · have E := Lib.hid (show ans = withN R p (k + 1) by rw [hs.out]; exact FO.out (by have := hz.out; rwa [List.take_of_length_le (by omega)] at this))
          go_wp2
          go_round
          case rel => exact ⟨k + 1, by omega, by go_num, E⟩
          case measure => first | omega | (simp [intOf]; omega)
    · have E := Lib.hid (show ans = -1 by rw [hs.out]; exact withN_end R p k (by omega))
      go_wp2
      go_ret
      exact ⟨rint E.out.symm, rfl⟩
set_option maxRecDepth 100000 in
set_option maxHeartbeats 1000000 in
theorem l5Kept_back (A : Option Addr) (ls : List Int) (c : Nat) (b : Int) (w : World) (B : Nat) (h1 : Rd w B A (nums .i64 ls)) (hl : ls.length ≤ 600) (p : Nat) (hp : p ≤ ls.length) :
    Calls Tryz.prog 65 #[.slice A ls.length c, .int .i64 ((p : Int) - 1), .int .i64 (-1), .int .i64 b] w fun e w' => e = .returned (.int .i64 (aheadN ls b p)) ∧ w = w' := by
  have H1 := Lib.hid h1
  clear h1
  obtain ⟨ans, hans⟩ : ∃ ans, Hid (ans = aheadN ls b p) := ⟨_, Lib.hid rfl⟩
  rw [← hans.out]
  go_enter Tryz.func65, Tryz.ntmps65
  go_wp2
  go_loop [1] (fun i => ∃ k : Nat, k ≤ ls.length ∧ i = .int .i64 ((k : Int) - 1) ∧ Hid (ans = aheadN ls b k)) (fun i => (intOf i + 1).toNat)
  case atStart => exact ⟨p, hp, rfl, hans⟩
  case round =>
    clear hans
    obtain ⟨k, hk, rfl, hs⟩ := hrel
    cases k with
    | zero =>
      have E := Lib.hid (show ans = b from hs.out)
      go_wp2
      go_ret
      exact ⟨rint E.out.symm, rfl⟩
    | succ k =>
      have hlt : k < ls.length := by omega
      obtain ⟨bb, oo, rfl, _, hc⟩ := H1.out.int (by omega)
      have hc0 := hc k hlt
      have AS := Lib.hid (show aheadN ls b (k + 1) = if nth ls k = -1 then aheadN ls b k else nth ls k from rfl)
      obtain ⟨x, hx⟩ : ∃ x, Hid (x = nth ls k) := ⟨_, Lib.hid rfl⟩
      rw [← hx.out] at hc0 AS
      have ek : (((k + 1 : Nat) : Int) - 1) = (k : Int) := by omega
      rw [ek]
      clear hc
      by_cases hg : x = -1
      · have hge : (x != -1) = false := by simp [hg]
        have E := Lib.hid (show ans = aheadN ls b k by rw [hs.out, AS.out, if_pos hg])
        clear hg
        go_wp2
        go_round
        case rel => exact ⟨k, by omega, by first | rfl | go_num, E⟩
        case measure => simp [intOf]; omega
      · have hge : (x != -1) = true := by simpa using hg
        have E := Lib.hid (show ans = x by rw [hs.out, AS.out, if_neg hg])
        clear hg
        go_wp2
        go_ret
        exact ⟨rint E.out.symm, rfl⟩
set_option maxRecDepth 100000 in
set_option maxHeartbeats 1000000 in
theorem l5Kept_on (A : Option Addr) (ls : List Int) (c : Nat) (b : Int) (w : World) (B : Nat) (h1 : Rd w B A (nums .i64 ls)) (hl : ls.length ≤ 600) (p : Nat) (hp : p < ls.length) :
    Calls Tryz.prog 65 #[.slice A ls.length c, .int .i64 ((p : Int) + 1), .int .i64 1, .int .i64 b] w fun e w' => e = .returned (.int .i64 (firstK b (ls.drop (p + 1)))) ∧ w = w' := by
  have H1 := Lib.hid h1
  clear h1
  obtain ⟨ans, hans⟩ : ∃ ans, Hid (ans = firstK b (ls.drop (p + 1))) := ⟨_, Lib.hid rfl⟩
  rw [← hans.out]
  go_enter Tryz.func65, Tryz.ntmps65
  go_wp2
  go_loop [1] (fun i => ∃ k : Nat, k ≤ ls.length ∧ i = .int .i64 k ∧ Hid (ans = firstK b (ls.drop k))) (fun i => ls.length + 1 - (intOf i).toNat)
  case atStart => exact ⟨p + 1, by omega, by simp, hans⟩
  case round =>
    clear hans
    obtain ⟨k, hk, rfl, hs⟩ := hrel
    by_cases hlt : k < ls.length
    · obtain ⟨bb, oo, rfl, _, hc⟩ := H1.out.int (by omega)
      have hc0 := hc k hlt
      have FS := Lib.hid (show firstK b (ls.drop k) = if nth ls k = -1 then firstK b (ls.drop (k + 1)) else nth ls k by rw [drop_nth ls k hlt]; rfl)
      obtain ⟨x, hx⟩ : ∃ x, Hid (x = nth ls k) := ⟨_, Lib.hid rfl⟩
      rw [← hx.out] at hc0 FS
      clear hc
      by_cases hg : x = -1
      · have hge : (x != -1) = false := by simp [hg]
        have E := Lib.hid (show ans = firstK b (ls.drop (k + 1)) by rw [hs.out, FS.out, if_pos hg])
        clear hg
        go_wp2
        go_round
        case rel => exact ⟨k + 1, by omega, by go_num, E⟩
        case measure => first | omega | (simp [intOf]; omega)
      · have hge : (x != -1) = true := by simpa using hg
        have E := Lib.hid (show ans = x by rw [hs.out, FS.out, if_neg hg])
        clear hg
        go_wp2
        go_ret
        exact ⟨rint E.out.symm, rfl⟩
    · have E := Lib.hid (show ans = b by rw [hs.out, List.drop_of_length_le (by omega)]; rfl)
      go_wp2
      go_ret
      exact ⟨rint E.out.symm, rfl⟩
end Go.Proofs.YtmcmfklkljehiaaGreat
