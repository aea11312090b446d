/- Chapter 5: the program's linker: which runs begin, what goes on with what, the level behind. -/
import Derived.Test.YtcfnhjpmihngdaaGreatY34
import Derived.Test.YtcfnhjpmihngdaaGreatY18
import Derived.Test.YtcfnhjpmihngdaaGreatY33
namespace Go.Proofs.YtcfnhjpmihngdaaGreat
open Go.RowKit Go.Maps

theorem any_mem (ks : List Int) (z : Int) : (ks.any fun x => decide (z = x)) = decide (z ∈ ks) := by
  induction ks with
  | nil => simp
  | cons x ks ih => simp [List.any_cons, ih]

section
variable {w : World} {B g : Nat} {b : Int} {v1 v2 v3 vR : Value} {ks M ls : List Int} {R : List (List Int)}
set_option maxRecDepth 100000 in
set_option maxHeartbeats 1000000 in
theorem begins_any (h : Lk w 90 B g b v1 v2 v3 vR ks M ls R) (_ : B ≤ w.heap.size) (A : Option Addr) (r : List Int) (c : Nat) (hr : Rd w B A (nums .i64 r)) (h0 : 0 < r.length) (hf : 0 ≤ nth r 0 ∧ nth r 0 < M.length) :
    Calls Tryz.prog 56 #[.pointer (some ⟨g, 0, none⟩), .slice A r.length c] w fun e w' => e = .returned (.bool (beginsN M r)) ∧ Below w.heap.size w w' := by
  obtain ⟨bb, oo, rfl, hbb, hc⟩ := hr.int h0
  have hc0 := hc 0 h0
  obtain ⟨x, hx⟩ : ∃ x : Nat, Hid (nth r 0 = (x : Int)) := ⟨(nth r 0).toNat, Lib.hid (by show nth _ _ = _; omega)⟩
  have e2 := h.blk.cell 2 (u := v2) rfl
  obtain ⟨A2, c2, rfl, r2⟩ := h.s2
  have xlt : x < M.length := by have := hx.out; omega
  have E : Hid (beginsN M r = !(decide (0 ≤ nth M x) && decide (nth M x ≤ x))) := Lib.hid (by
    unfold beginsN; rw [hx.out]; simp [Bool.decide_and])
  rw [hx.out, Nat.add_zero] at hc0
  obtain ⟨b2, o2, rfl, hb2, hcm⟩ := r2.int (by omega)
  have hm := hcm x xlt
  obtain ⟨y, hy⟩ : ∃ y, Hid (y = nth M x) := ⟨_, Lib.hid rfl⟩
  rw [← hy.out] at hm E
  have ml : 0 < M.length := by omega
  have b1 := (Below.refl w.heap.size w).alloc (Nat.le_refl _) (.cells #[.int .i64 0, .int .i64 x] 2)
  clear hc hcm hr h hf
  go_enter Tryz.func56, Tryz.ntmps56
  go_wp2_with (go_at_call 67; (with_reducible refine (within_lit2 _ _ _ _ _ _ (by simp)).mono ?_); rintro e w' ⟨rfl, rfl⟩)
  go_ret
  refine ⟨rbool ?_, b1⟩
  rw [E.out]
  simp [spans]
set_option maxRecDepth 100000 in
set_option maxHeartbeats 1000000 in
theorem goesOnWith_any (h : Lk w 90 B g b v1 v2 v3 vR ks M ls R) (A : Option Addr) (r : List Int) (c : Nat) (hr : Rd w B A (nums .i64 r)) (h0 : 0 < r.length) (hf : 0 ≤ lastOf r ∧ lastOf r < M.length) (hl : r.length ≤ 600) (hR : ∀ q ∈ R, q.length ≤ 600) (hRl : R.length ≤ 600) :
    Calls Tryz.prog 83 #[.pointer (some ⟨g, 0, none⟩), .slice A r.length c] w fun e w' => (∃ u, e = .returned u ∧ Sees w B .i64 u (nextR M R r)) ∧ w = w' := by
  have HR := Lib.hid hR
  have RR := Lib.hid h.sR
  have e2 := h.blk.cell 2 (u := v2) rfl
  have e4 := h.blk.cell 4 (u := vR) rfl
  obtain ⟨A2, c2, rfl, r2⟩ := h.s2
  obtain ⟨m, hm⟩ : ∃ m, Hid (r.length = m + 1) := ⟨r.length - 1, Lib.hid (by show r.length = _; omega)⟩
  obtain ⟨bb, oo, rfl, hbb, hc⟩ := hr.int h0
  have hc0 := hc m (by rw [hm.out]; omega)
  rw [hm.out] at hl ⊢
  have lo : nth r m = lastOf r := by unfold lastOf; rw [hm.out]; rfl
  obtain ⟨x, hx⟩ : ∃ x : Nat, Hid (lastOf r = (x : Int)) := ⟨(lastOf r).toNat, Lib.hid (by show lastOf _ = _; omega)⟩
  rw [lo, hx.out] at hc0
  have xlt : x < M.length := by have := hx.out; omega
  obtain ⟨b2, o2, rfl, hb2, hcm⟩ := r2.int (by omega)
  have hm2 := hcm x xlt
  obtain ⟨y, hy⟩ : ∃ y, Hid (y = nth M x) := ⟨_, Lib.hid rfl⟩
  have E : Hid (nextR M R r = if y < x then [] else findR R y) := Lib.hid (by unfold nextR; rw [hx.out, Int.toNat_natCast, ← hy.out])
  rw [← hy.out] at hm2
  obtain ⟨usR, ⟨AR, cR, rfl, _⟩, _⟩ := h.sR
  clear hc hcm hr hf lo hR
  by_cases hyx : y < x
  · have EN := Lib.hid (show nextR M R r = [] by rw [E.out, if_pos hyx])
    have hd : decide (y < (x : Int)) = true := decide_eq_true hyx
    go_enter Tryz.func83, Tryz.ntmps83
    go_wp2
    go_ret
    exact ⟨⟨_, rfl, by rw [EN.out]; exact ⟨none, 0, rfl, Rd.nil _ _ _⟩⟩, rfl⟩
  · have EN := Lib.hid (show nextR M R r = findR R y by rw [E.out, if_neg hyx])
    have hd : decide (y < (x : Int)) = false := decide_eq_false hyx
    have E0 : Hid (nextR M R r = findR (R.drop 0) y) := EN
    clear E EN h
    obtain ⟨ans, hans⟩ : ∃ ans, Hid (ans = nextR M R r) := ⟨_, Lib.hid rfl⟩
    rw [← hans.out] at E0 ⊢
    go_enter Tryz.func83, Tryz.ntmps83
    go_wp2
    go_loop [30] (fun i => ∃ k : Nat, k ≤ R.length ∧ i = .int .i64 k ∧ Hid (ans = findR (R.drop k) y)) (fun i => R.length + 1 - (intOf i).toNat)
    case atStart => exact ⟨0, by omega, rfl, E0⟩
    case round =>
      clear E0
      obtain ⟨k, hk, rfl, hs⟩ := hrel
      by_cases hlt : k < R.length
      · obtain ⟨bR, oR, cR', u, e1, hbR, hcu, su⟩ := RR.out.at_ k hlt
        cases e1
        have ql := HR.out _ (nthL_mem hlt)
        have FI := Lib.hid (fun hp => findR_in (R := R) (p := y) (k := k) hlt hp)
        have FO := Lib.hid (fun hp => findR_out (R := R) (p := y) (k := k) hlt hp)
        obtain ⟨q, hq⟩ : ∃ q, Hid (q = nthL R k) := ⟨_, Lib.hid rfl⟩
        rw [← hq.out] at su ql FI FO
        obtain ⟨Au, cu, rfl, ru⟩ := su
        have RU := Lib.hid ru
        clear ru
        go_wp2_with fail
        refine (contains_any Au q cu y _ B RU.out ql).mono ?_
        rintro e w' ⟨rfl, rfl⟩
        rw [any_mem]
        by_cases hp : y ∈ q
        · have ED := Lib.hid (show ans = q by rw [hs.out]; exact FI.out hp)
          rw [decide_eq_true hp]
          clear hp
          go_wp2
          go_ret
          exact ⟨⟨_, rfl, by rw [ED.out]; exact ⟨_, _, rfl, RU.out⟩⟩, rfl⟩
        · have ED := Lib.hid (show ans = findR (R.drop (k + 1)) y by rw [hs.out]; exact FO.out hp)
          rw [decide_eq_false hp]
          clear hp
          go_wp2
          go_round
          case rel => exact ⟨k + 1, by omega, by go_num, ED⟩
          case measure => first | omega | (simp [intOf]; omega)
      · have ED := Lib.hid (show ans = [] by rw [hs.out, List.drop_of_length_le (by omega)]; rfl)
        go_wp2
        go_ret
        exact ⟨⟨_, rfl, by rw [ED.out]; exact ⟨none, 0, rfl, Rd.nil _ _ _⟩⟩, rfl⟩
set_option maxRecDepth 100000 in
set_option maxHeartbeats 2000000 in
theorem levelBehind_any (h : Lk w 90 B g b v1 v2 v3 vR ks M ls R) (hB : B ≤ w.heap.size) (p : Nat) (hp : p < ks.length) (hM : M.length = ks.length) (hls : ls.length = ks.length) (hl : ks.length ≤ 600) (hcp : ∀ A c, v3 = .slice A ls.length c → ls.length ≤ c) :
    Calls Tryz.prog 86 #[.pointer (some ⟨g, 0, none⟩), .int .i64 p] w fun e w' => e = .returned (.int .i64 (behindN ks M ls b p)) ∧ Below w.heap.size w w' := by
  have H := Lib.hid h
  have e1 := h.blk.cell 1 (u := v1) rfl
  obtain ⟨A1, c1, rfl, r1⟩ := h.s1
  obtain ⟨b1, o1, rfl, hb1, hc1⟩ := r1.int (by omega)
  have hk := hc1 p hp
  obtain ⟨q, hq⟩ : ∃ q, Hid (q = nth ks p) := ⟨_, Lib.hid rfl⟩
  rw [← hq.out] at hk
  have BN : Hid (behindN ks M ls b p = if isOp q ∧ nth M p < 0 then b else firstK b (ls.drop (p + 1))) := Lib.hid (by unfold behindN; rw [Int.toNat_natCast, ← hq.out])
  obtain ⟨ans, hans⟩ : ∃ ans, Hid (ans = behindN ks M ls b p) := ⟨_, Lib.hid rfl⟩
  rw [← hans.out] at BN ⊢
  obtain ⟨A3, c3, e3', _⟩ := h.s3
  have cc := hcp A3 c3 e3'
  have ppl : p < ls.length := by omega
  have ppm : p < M.length := by omega
  have lsl : ls.length ≤ 600 := by omega
  clear hc1 h r1 hcp hM hls
  go_enter Tryz.func86, Tryz.ntmps86
  go_wp2_with fail
  refine (opensIsolate_any q _).mono ?_
  rintro e w4 ⟨rfl, b4⟩
  have H4 := Lib.hid (H.out.below b4 hB)
  have B4 := Lib.hid b4
  clear b4 e1 hk
  have e0 := H4.out.blk.cell 0 (u := .int .i64 b) rfl
  have e2 := H4.out.blk.cell 2 (u := v2) rfl
  have e3 := H4.out.blk.cell 3 (u := v3) rfl
  obtain ⟨A2, c2, rfl, r2⟩ := H4.out.s2
  obtain ⟨b2, o2, rfl, hb2, hc2⟩ := r2.int (by omega)
  have hm := hc2 p ppm
  obtain ⟨y, hy⟩ : ∃ y, Hid (y = nth M p) := ⟨_, Lib.hid rfl⟩
  rw [← hy.out] at hm BN
  obtain ⟨A3, c3, rfl, r3⟩ := H4.out.s3
  injection e3' with e4 e5 e6
  subst e4; subst e6
  clear e5 hc2 r2 H
  obtain ⟨b3, o3, rfl, hb3, _⟩ := r3.int (by omega)
  have R3 := Lib.hid r3
  clear r3
  by_cases hop : isOp q ∧ y < 0
  · have E := Lib.hid (show ans = b by rw [BN.out, if_pos hop])
    have hob : opB q = true := decide_eq_true hop.1
    have hd : decide (y < 0) = true := decide_eq_true hop.2
    rw [hob]
    clear hop hob
    go_wp2
    go_ret
    exact ⟨rint E.out.symm, B4.out⟩
  · obtain ⟨zs, hzs⟩ : ∃ zs, Hid (zs = ls.drop (p + 1)) := ⟨_, Lib.hid rfl⟩
    have ZL : Hid (zs.length = ls.length - (p + 1)) := Lib.hid (by rw [hzs.out, List.length_drop])
    have zl6 : zs.length ≤ 600 := by have := ZL.out; omega
    have AN : Hid (ans = firstK b (zs.drop 0)) := Lib.hid (by rw [BN.out, if_neg hop, ← hzs.out]; rfl)
    have RZ0 : Hid (Rd w4 B (some ⟨b3, o3 + (p + 1), none⟩) (nums .i64 zs)) := Lib.hid (by
      have := R3.out.part (p + 1) ls.length
      rw [List.take_of_length_le (Nat.le_refl _), ← hzs.out] at this
      exact this)
    by_cases hob : isOp q
    · have hd : decide (y < 0) = false := decide_eq_false fun h => hop ⟨hob, h⟩
      rw [show opB q = true from decide_eq_true hob]
      clear hop hob
      by_cases hc : c3 = p + 1
      · have zl0 : zs.length = 0 := by have := ZL.out; omega
        go_wp2_with fail
        rw [← ZL.out]
        clear ZL
        go_loop [37] (fun i => ∃ k : Nat, k ≤ zs.length ∧ i = .int .i64 k ∧ Hid (ans = firstK b (zs.drop k))) (fun i => zs.length + 1 - (intOf i).toNat)
        case atStart => exact ⟨0, by omega, rfl, AN⟩
        case round =>
          clear AN
          obtain ⟨k, hk, rfl, hs⟩ := hrel
          by_cases hlt : k < zs.length
          · omega
          · have E := Lib.hid (show ans = b by rw [hs.out, List.drop_of_length_le (by omega)]; rfl)
            go_wp2
            go_ret
            exact ⟨rint E.out.symm, B4.out⟩
      · skip
        go_wp2_with fail
        rw [← ZL.out]
        clear ZL
        go_loop [37] (fun i => ∃ k : Nat, k ≤ zs.length ∧ i = .int .i64 k ∧ Hid (ans = firstK b (zs.drop k))) (fun i => zs.length + 1 - (intOf i).toNat)
        case atStart => exact ⟨0, by omega, rfl, AN⟩
        case round =>
          clear AN
          obtain ⟨k, hk, rfl, hs⟩ := hrel
          by_cases hlt : k < zs.length
          · obtain ⟨bz, oz, e1, _, hcz⟩ := RZ0.out.int (by omega)
            cases e1
            have hc0 := hcz k hlt
            have FS := Lib.hid (show firstK b (zs.drop k) = if nth zs k = -1 then firstK b (zs.drop (k + 1)) else nth zs k by rw [drop_nth zs k hlt]; rfl)
            obtain ⟨x, hx⟩ : ∃ x, Hid (x = nth zs k) := ⟨_, Lib.hid rfl⟩
            rw [← hx.out] at hc0 FS
            clear hcz
            by_cases hx1 : x = -1
            · have hxe : (x != -1) = false := by simp [hx1]
              have E := Lib.hid (show ans = firstK b (zs.drop (k + 1)) by rw [hs.out, FS.out, if_pos hx1])
              clear hx1
              go_wp2
              go_round
              case rel => exact ⟨k + 1, by omega, by go_num, E⟩
              case measure => first | omega | (simp [intOf]; omega)
            · have hxe : (x != -1) = true := by simpa using hx1
              have E := Lib.hid (show ans = x by rw [hs.out, FS.out, if_neg hx1])
              clear hx1
              go_wp2
              go_ret
              exact ⟨rint E.out.symm, B4.out⟩
          · have E := Lib.hid (show ans = b by rw [hs.out, List.drop_of_length_le (by omega)]; rfl)
            go_wp2
            go_ret
            exact ⟨rint E.out.symm, B4.out⟩
    · rw [show opB q = false from decide_eq_false hob]
      clear hop hob
      by_cases hc : c3 = p + 1
      · have zl0 : zs.length = 0 := by have := ZL.out; omega
        go_wp2_with fail
        rw [← ZL.out]
        clear ZL
        go_loop [37] (fun i => ∃ k : Nat, k ≤ zs.length ∧ i = .int .i64 k ∧ Hid (ans = firstK b (zs.drop k))) (fun i => zs.length + 1 - (intOf i).toNat)
        case atStart => exact ⟨0, by omega, rfl, AN⟩
        case round =>
          clear AN
          obtain ⟨k, hk, rfl, hs⟩ := hrel
          by_cases hlt : k < zs.length
          · omega
          · have E := Lib.hid (show ans = b by rw [hs.out, List.drop_of_length_le (by omega)]; rfl)
            go_wp2
            go_ret
            exact ⟨rint E.out.symm, B4.out⟩
      · skip
        go_wp2_with fail
        rw [← ZL.out]
        clear ZL
        go_loop [37] (fun i => ∃ k : Nat, k ≤ zs.length ∧ i = .int .i64 k ∧ Hid (ans = firstK b (zs.drop k))) (fun i => zs.length + 1 - (intOf i).toNat)
        case atStart => exact ⟨0, by omega, rfl, AN⟩
        case round =>
          clear AN
          obtain ⟨k, hk, rfl, hs⟩ := hrel
          by_cases hlt : k < zs.length
          · obtain ⟨bz, oz, e1, _, hcz⟩ := RZ0.out.int (by omega)
            cases e1
            have hc0 := hcz k hlt
            have FS := Lib.hid (show firstK b (zs.drop k) = if nth zs k = -1 then firstK b (zs.drop (k + 1)) else nth zs k by rw [drop_nth zs k hlt]; rfl)
            obtain ⟨x, hx⟩ : ∃ x, Hid (x = nth zs k) := ⟨_, Lib.hid rfl⟩
            rw [← hx.out] at hc0 FS
            clear hcz
            by_cases hx1 : x = -1
            · have hxe : (x != -1) = false := by simp [hx1]
              have E := Lib.hid (show ans = firstK b (zs.drop (k + 1)) by rw [hs.out, FS.out, if_pos hx1])
              clear hx1
              go_wp2
              go_round
              case rel => exact ⟨k + 1, by omega, by go_num, E⟩
              case measure => first | omega | (simp [intOf]; omega)
            · have hxe : (x != -1) = true := by simpa using hx1
              have E := Lib.hid (show ans = x by rw [hs.out, FS.out, if_neg hx1])
              clear hx1
              go_wp2
              go_ret
              exact ⟨rint E.out.symm, B4.out⟩
          · have E := Lib.hid (show ans = b by rw [hs.out, List.drop_of_length_le (by omega)]; rfl)
            go_wp2
            go_ret
            exact ⟨rint E.out.symm, B4.out⟩
end
end Go.Proofs.YtcfnhjpmihngdaaGreat
