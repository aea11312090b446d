/- Chapter 3: the program's base level. -/
import Derived.Test.YtmkpbfghnkmcgaaG2
namespace Go.Proofs.Ytmkpbfghnkmcgaa
open Go.RowKit Go.Maps

theorem baseG_at (ks : List Int) (o k : Nat) (h : k < ks.length) : baseG o (ks.drop k) =
    if isOp (nth ks k) then baseG (o + 1) (ks.drop (k + 1)) else if nth ks k = 22 then baseG (o - 1) (ks.drop (k + 1)) else if o = 0 ∧ nth ks k = 0 then 0 else if o = 0 ∧ (nth ks k = 1 ∨ nth ks k = 2) then 1 else baseG o (ks.drop (k + 1)) := by
  rw [drop_nth ks k h, baseG_cons]

set_option maxRecDepth 100000 in
set_option maxHeartbeats 1000000 in
theorem baseAmong_any (A : Option Addr) (ks : List Int) (c : Nat) (w : World) (B : Nat) (h1 : Rd w B A (nums .i64 ks)) (hB : B ≤ w.heap.size) (hl : ks.length ≤ 600) :
    Calls Try.prog 58 #[.slice A ks.length c] w fun e w' => e = .returned (.int .i64 (baseG 0 ks)) ∧ Below w.heap.size w w' := by
  have HR := Lib.hid h1
  have B0 := Lib.hid (Below.refl w.heap.size w)
  clear h1
  obtain ⟨ans, hans⟩ : ∃ x, Hid (x = baseG 0 ks) := ⟨_, Lib.hid rfl⟩
  rw [← hans.out]
  have EL : Hid (ans = baseG 0 (ks.drop 0)) := hans
  go_enter Try.func58, Try.ntmps58
  go_wp2
  go_loopw [3, 8] (fun o i wr => ∃ k ob : Nat, k ≤ ks.length ∧ i = .int .i64 k ∧ o = .int .i64 ob ∧ ob ≤ k ∧ Hid (ans = baseG ob (ks.drop k)) ∧ Hid (Rd wr B A (nums .i64 ks)) ∧
    Hid (Below w.heap.size w wr) ∧ w.heap.size ≤ wr.heap.size) (fun _ i _ => ks.length - (intOf i).toNat)
  case atStart => exact ⟨0, 0, by omega, rfl, rfl, by omega, EL, HR, B0, by omega⟩
  case round =>
    clear HR B0 EL
    obtain ⟨k, ob, hk, rfl, rfl, hob, hs, hrd, hbr, hsz⟩ := hrel
    by_cases hlt : k < ks.length
    · obtain ⟨b, off, rfl, hb, hc⟩ := hrd.out.int (by omega)
      have hc0 := hc k hlt
      have BA := Lib.hid (baseG_at ks ob k hlt)
      obtain ⟨q, hq⟩ : ∃ q, Hid (q = nth ks k) := ⟨_, Lib.hid rfl⟩
      rw [← hq.out] at BA hc0
      clear hc
      go_wp2_with fail
      refine (opensIsolate_any q _).mono ?_
      rintro e w3 ⟨rfl, b4⟩
      have R3 := Lib.hid (hrd.out.below b4 (by omega))
      have B4 := Lib.hid (below_on hbr.out b4 (Nat.le_refl _))
      have s3 : w.heap.size ≤ w3.heap.size := by have := b4.size; omega
      clear b4 hrd hbr hc0
      by_cases hop : isOp q
      · rw [show opB q = true from decide_eq_true hop]
        have E := Lib.hid (show ans = baseG (ob + 1) (ks.drop (k + 1)) by rw [hs.out, BA.out, if_pos hop])
        clear hop
        go_wp2
        go_roundw
        case rel => exact ⟨k + 1, ob + 1, by omega, by go_num, by go_num, by omega, E, R3, B4, s3⟩
        case measure => first | omega | (simp [intOf]; omega)
      · rw [show opB q = false from decide_eq_false hop]
        by_cases h22 : q = 22
        · have E := Lib.hid (show ans = baseG (ob - 1) (ks.drop (k + 1)) by rw [hs.out, BA.out, if_neg hop, if_pos h22])
          have n22 : (q == 22) = true := by simp [h22]
          clear hop h22
          cases ob with
          | zero =>
            go_wp2
            go_roundw
            case rel => exact ⟨k + 1, 0, by omega, by go_num, by go_num, by omega, E, R3, B4, s3⟩
            case measure => first | omega | (simp [intOf]; omega)
          | succ p =>
            go_wp2
            go_roundw
            case rel => exact ⟨k + 1, p, by omega, by go_num, by go_num, by omega, E, R3, B4, s3⟩
            case measure => first | omega | (simp [intOf]; omega)
        · have n22 : (q == 22) = false := by simpa using h22
          by_cases ho : ob = 0
          · subst ho
            by_cases h0 : q = 0
            · have E := Lib.hid (show ans = 0 by rw [hs.out, BA.out, if_neg hop, if_neg h22, if_pos ⟨rfl, h0⟩])
              have n0 : (q == 0) = true := by simp [h0]
              clear hop h22 h0
              go_wp2
              go_ret
              exact ⟨rint E.out.symm, B4.out⟩
            · have n0 : (q == 0) = false := by simpa using h0
              by_cases h12 : q = 1 ∨ q = 2
              · have E := Lib.hid (show ans = 1 by rw [hs.out, BA.out, if_neg hop, if_neg h22, if_neg (by omega), if_pos ⟨rfl, h12⟩])
                have hsp : spans q [1, 2] = true := by simp [spans]; omega
                clear hop h22 h0 h12
                go_wp2_with (go_at_call 69; (with_reducible refine (within_lit2 _ _ _ _ _ _ (by simp)).mono ?_); rintro e w' ⟨rfl, rfl⟩)
                go_ret
                exact ⟨rint E.out.symm, B4.out.alloc (by omega) _⟩
              · have E := Lib.hid (show ans = baseG 0 (ks.drop (k + 1)) by rw [hs.out, BA.out, if_neg hop, if_neg h22, if_neg (by omega), if_neg (by omega)])
                have hsp : spans q [1, 2] = false := by simp [spans]; omega
                have R4 := Lib.hid (R3.out.below ((Below.refl B w3).alloc (by omega) (.cells #[.int .i64 1, .int .i64 2] 2)) (Nat.le_refl _))
                have B5 := Lib.hid (B4.out.alloc B4.out.size (.cells #[.int .i64 1, .int .i64 2] 2))
                clear hop h22 h0 h12
                go_wp2_with (go_at_call 69; (with_reducible refine (within_lit2 _ _ _ _ _ _ (by simp)).mono ?_); rintro e w' ⟨rfl, rfl⟩)
                go_roundw
                case rel => exact ⟨k + 1, 0, by omega, by go_num, by go_num, by omega, E, R4, B5, by simp; omega⟩
                case measure => first | omega | (simp [intOf]; omega)
          · have E := Lib.hid (show ans = baseG ob (ks.drop (k + 1)) by rw [hs.out, BA.out, if_neg hop, if_neg h22, if_neg (by omega), if_neg (by omega)])
            have no : ((ob : Int) == 0) = false := by simp; omega
            clear hop h22 ho
            go_wp2
            go_roundw
            case rel => exact ⟨k + 1, ob, by omega, by go_num, by go_num, by omega, E, R3, B4, s3⟩
            case measure => first | omega | (simp [intOf]; omega)
    · have E := Lib.hid (show ans = 0 by rw [hs.out, List.drop_of_length_le (by omega)]; cases ob <;> rfl)
      go_wp2
      go_ret
      exact ⟨rint E.out.symm, hbr.out⟩

set_option maxRecDepth 100000 in
set_option maxHeartbeats 1000000 in
theorem baseLevel_val (v : Value) (zs : List Int) (w : World) (B : Nat) (h : Sees w B .i64 v zs) (hB : B ≤ w.heap.size) (l : zs.length < 1000000000) (_ : ∀ n ∈ zs, (Lit.int .i64 n).wf = true) :
    Calls Try.prog 16 #[v] w fun e w' => e = .returned (.agg #[.int .i64 (textF zs), .int .i64 (baseV zs)]) ∧ Below w.heap.size w w' := by
  obtain ⟨A, c, rfl, hr⟩ := h
  have HR := Lib.hid hr
  clear hr
  have b0 := (Below.refl w.heap.size w).alloc (Nat.le_refl _) (.cells #[.int .i64 0, .int .i64 0] 34)
  have k0 := Blk.new w 34 #[.int .i64 0, .int .i64 0]
  go_enter Try.func16, Try.ntmps16
  go_wp2_with fail
  refine (textFault_any A zs c _ B (HR.out.below ((Below.refl B w).alloc hB _) (Nat.le_refl _)) (by simp; omega) l).mono ?_
  rintro e w1 ⟨rfl, b1⟩
  have k1 := k0.below b1 k0.lt
  have b2 := below_on b0 b1 (Nat.le_refl _)
  have R1 := Lib.hid ((HR.out.below ((Below.refl B w).alloc hB _) (Nat.le_refl _)).below b1 (by simp; omega))
  have s1 := k1.lt
  by_cases hz : textF zs = 0
  · have EL := Lib.hid (show baseV zs = baseG 0 (classesN zs) by unfold baseV baseN; rw [if_pos hz])
    have HZ := Lib.hid hz
    have hll := (textF_zero hz).1
    have K1 := Lib.hid k1
    have B2 := Lib.hid b2
    rw [hz]
    clear hz b0 k0 b1 k1 b2
    go_wp2_with fail
    refine (classesOf_any A zs c w1 B R1.out (by omega) HZ.out).mono ?_
    rintro e w2 ⟨⟨v2, rfl, o2⟩, b3⟩
    obtain ⟨A2, c2, rfl⟩ := o2.form
    have K2 := Lib.hid (K1.out.below b3 K1.out.lt)
    have B3 := Lib.hid (below_on B2.out b3 (Nat.le_refl _))
    have R2 := Lib.hid (Rd.of o2.1)
    have HKL := Lib.hid (classesN_len zs)
    have s2 := K2.out.lt
    clear o2 b3
    go_wp2_with fail
    refine (baseAmong_any A2 (classesN zs) c2 w2 _ R2.out (Nat.le_refl _) (by rw [HKL.out]; exact hll)).mono ?_
    rintro e w3 ⟨rfl, b4⟩
    rw [← EL.out]
    have k3 := K2.out.below b4 K2.out.lt
    have b5 := below_on B3.out b4 (Nat.le_refl _)
    have hd0 := k3.cell 0 (u := .int .i64 0) rfl
    have hd1 := k3.cell 1 (u := .int .i64 0) rfl
    have hf0 := k3.frozen 0
    have hf1 := k3.frozen 1
    go_wp2
    refine bodyPost_ret (v := .agg #[.int .i64 0, .int .i64 (baseV zs)]) (by simp [results, Try.results16, go_sem, hd0, hd1]) rfl ?_
    rw [HZ.out]
    exact ⟨rfl, (b5.setCell (by simp) _).setCell (by simp) _⟩
  · have EL := Lib.hid (show baseV zs = 0 by unfold baseV; rw [if_neg hz])
    obtain ⟨q, hq⟩ : ∃ q, Hid (q = textF zs) := ⟨_, Lib.hid rfl⟩
    have hne : (q != 0) = true := by rw [hq.out]; simpa using hz
    have hd0 := k1.cell 0 (u := .int .i64 0) rfl
    have hd1 := k1.cell 1 (u := .int .i64 0) rfl
    have hf0 := k1.frozen 0
    have hf1 := k1.frozen 1
    clear hz
    rw [← hq.out]
    go_wp2
    refine bodyPost_ret (v := .agg #[.int .i64 q, .int .i64 0]) (by simp [results, Try.results16, go_sem, hd0, hd1]) rfl ?_
    rw [EL.out, ← hq.out]
    exact ⟨rfl, (b2.setCell (by simp) _).setCell (by simp) _⟩
end Go.Proofs.Ytmkpbfghnkmcgaa
