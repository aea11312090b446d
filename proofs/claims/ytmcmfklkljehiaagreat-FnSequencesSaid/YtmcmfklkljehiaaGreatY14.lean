/- Chapter 3: the model's paragraphs. -/
import Derived.Test.YtmcmfklkljehiaaGreatY13
import Derived.Test.YtmcmfklkljehiaaGreatY08
namespace Go.Proofs.YtmcmfklkljehiaaGreat
open Go.RowKit Go.Maps

theorem baseG_at (ks : List Int) (o k : Nat) (h : k < ks.length) : baseG o (ks.drop k) =
    if isOp (nth ks k) then baseG (o + 1) (ks.drop (k + 1)) else if nth ks k = 22 then baseG (o - 1) (ks.drop (k + 1)) else if o = 0 ∧ nth ks k = 0 then 0 else if o = 0 ∧ (nth ks k = 1 ∨ nth ks k = 2) then 1 else baseG o (ks.drop (k + 1)) := by
  rw [drop_nth ks k h, baseG_cons]

set_option maxRecDepth 100000 in
set_option maxHeartbeats 1000000 in
theorem baseAmong_any (A : Option Addr) (ks : List Int) (c : Nat) (w : World) (B : Nat) (h1 : Rd w B A (nums .i64 ks)) (hB : B ≤ w.heap.size) (hl : ks.length ≤ 600) :
    Calls Tryz.prog 104 #[.slice A ks.length c] w fun e w' => e = .returned (.int .i64 (baseG 0 ks)) ∧ Below w.heap.size w w' := by
  have HR := Lib.hid h1
  have B0 := Lib.hid (Below.refl w.heap.size w)
  clear h1
  obtain ⟨ans, hans⟩ : ∃ x, Hid (x = baseG 0 ks) := ⟨_, Lib.hid rfl⟩
  rw [← hans.out]
  have EL : Hid (ans = baseG 0 (ks.drop 0)) := hans
  go_enter Tryz.func104, Tryz.ntmps104
  go_wp2
  go_loopw [3, 8] (fun o i wr => ∃ k ob : Nat, k ≤ ks.length ∧ i = .int .i64 k ∧ o = .int .i64 ob ∧ ob ≤ k ∧ Hid (ans = baseG ob (ks.drop k)) ∧ Hid (Rd wr B A (nums .i64 ks)) ∧
    Hid (Below w.heap.size w wr) ∧ w.heap.size ≤ wr.heap.size) (fun _ i _ => ks.length - (intOf i).toNat)
  case atStart => exact ⟨0, 0, by omega, rfl, rfl, by omega, EL, HR, B0, by omega⟩
  case round =>
    clear HR B0 EL
    obtain ⟨k, ob, hk, rfl, rfl, hob, hs, hrd, hbr, hsz⟩ := hrel
    by_cases hlt : k < ks.length
    · obtain ⟨b, off, rfl, hb, hc⟩ := hrd.out.int (by omega)
      have hc0 := hc k hlt
      have BA := Lib.hid (baseG_at ks ob k hlt)
      obtain ⟨q, hq⟩ : ∃ q, Hid (q = nth ks k) := ⟨_, Lib.hid rfl⟩
      rw [← hq.out] at BA hc0
      clear hc
      go_wp2_with fail
      refine (opensIsolate_any q _).mono ?_
      rintro e w3 ⟨rfl, b4⟩
      have R3 := Lib.hid (hrd.out.below b4 (by omega))
      have B4 := Lib.hid (below_on hbr.out b4 (Nat.le_refl _))
      have s3 : w.heap.size ≤ w3.heap.size := by have := b4.size; omega
      clear b4 hrd hbr hc0
      by_cases hop : isOp q
      · rw [show opB q = true from decide_eq_true hop]
        have E := Lib.hid (show ans = baseG (ob + 1) (ks.drop (k + 1)) by rw [hs.out, BA.out, if_pos hop])
        clear hop
        go_wp2
        go_roundw
        case rel => exact ⟨k + 1, ob + 1, by omega, by go_num, by go_num, by omega, E, R3, B4, s3⟩
        case measure => first | omega | (simp [intOf]; omega)
      · rw [show opB q = false from decide_eq_false hop]
        by_cases h22 : q = 22
        · have E := Lib.hid (show ans = baseG (ob - 1) (ks.drop (k + 1)) by rw [hs.out, BA.out, if_neg hop, if_pos h22])
          have n22 : (q == 22) = true := by simp [h22]
          clear hop h22
          cases ob with
          | zero =>
            go_wp2
            go_roundw
            case rel => exact ⟨k + 1, 0, by omega, by go_num, by go_num, by omega, E, R3, B4, s3⟩
            case measure => first | omega | (simp [intOf]; omega)
          | succ p =>
            go_wp2
            go_roundw
            case rel => exact ⟨k + 1, p, by omega, by go_num, by go_num, by omega, E, R3, B4, s3⟩
            case measure => first | omega | (simp [intOf]; omega)
        · have n22 : (q == 22) = false := by simpa using h22
          by_cases ho : ob = 0
          · subst ho
            by_cases h0 : q = 0
            · have E := Lib.hid (show ans = 0 by rw [hs.out, BA.out, if_neg hop, if_neg h22, if_pos ⟨rfl, h0⟩])
              have n0 : (q == 0) = true := by simp [h0]
              clear hop h22 h0
              go_wp2
              go_ret
              exact ⟨rint E.out.symm, B4.out⟩
            · have n0 : (q == 0) = false := by simpa using h0
              by_cases h12 : q = 1 ∨ q = 2
              · have E := Lib.hid (show ans = 1 by rw [hs.out, BA.out, if_neg hop, if_neg h22, if_neg (by omega), if_pos ⟨rfl, h12⟩])
                have hsp : spans q [1, 2] = true := by simp [spans]; omega
                clear hop h22 h0 h12
                go_wp2_with (go_at_call 47; (with_reducible refine (within_lit2 _ _ _ _ _ _ (by simp)).mono ?_); rintro e w' ⟨rfl, rfl⟩)
                go_ret
                exact ⟨rint E.out.symm, B4.out.alloc (by omega) _⟩
              · have E := Lib.hid (show ans = baseG 0 (ks.drop (k + 1)) by rw [hs.out, BA.out, if_neg hop, if_neg h22, if_neg (by omega), if_neg (by omega)])
                have hsp : spans q [1, 2] = false := by simp [spans]; omega
                have R4 := Lib.hid (R3.out.below ((Below.refl B w3).alloc (by omega) (.cells #[.int .i64 1, .int .i64 2] 2)) (Nat.le_refl _))
                have B5 := Lib.hid (B4.out.alloc B4.out.size (.cells #[.int .i64 1, .int .i64 2] 2))
                clear hop h22 h0 h12
                go_wp2_with (go_at_call 47; (with_reducible refine (within_lit2 _ _ _ _ _ _ (by simp)).mono ?_); rintro e w' ⟨rfl, rfl⟩)
                go_roundw
                case rel => exact ⟨k + 1, 0, by omega, by go_num, by go_num, by omega, E, R4, B5, by simp; omega⟩
                case measure => first | omega | (simp [intOf]; omega)
          · have E := Lib.hid (show ans = baseG ob (ks.drop (k + 1)) by rw [hs.out, BA.out, if_neg hop, if_neg h22, if_neg (by omega), if_neg (by omega)])
            have no : ((ob : Int) == 0) = false := by simp; omega
            clear hop h22 ho
            go_wp2
            go_roundw
            case rel => exact ⟨k + 1, ob, by omega, by go_num, by go_num, by omega, E, R3, B4, s3⟩
            case measure => first | omega | (simp [intOf]; omega)
    · have E := Lib.hid (show ans = 0 by rw [hs.out, List.drop_of_length_le (by omega)]; cases ob <;> rfl)
      go_wp2
      go_ret
      exact ⟨rint E.out.symm, hbr.out⟩

end Go.Proofs.YtmcmfklkljehiaaGreat

namespace Go.Proofs.YtmcmfklkljehiaaGreat
open Go.RowKit Go.Maps

theorem info_ints : (Tryz.prog.info? 24).map (fun i => (i.zero, i.size, i.bytes)) = some (some (.slice none 0 0), 1, 24) := by kernel_rfl
theorem slice_one (A : Option Addr) (n c : Nat) : ∀ u ∈ [Value.slice A n c], u.oneCell' = true := by intro u hu; simp at hu; subst hu; rfl
theorem class_ten : classN 10 = 10 := rfl
def parasV (zs : List Int) : List (List Int) := if textF zs = 0 then parasN classN zs else []
def endedV (zs : List Int) : Bool := if textF zs = 0 then endedN classN zs else false
theorem parasV_total (zs : List Int) : (parasV zs).length + total (parasV zs) ≤ 2000 := by
  unfold parasV
  split
  · have := parasN_total classN zs
    have := (textF_zero (by assumption)).1
    omega
  · simp [total]

end Go.Proofs.YtmcmfklkljehiaaGreat
