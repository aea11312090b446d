/- The library's DecodeRune; the program's badSize, firstPiece. -/
import Derived.Test.YtmkpbfghnkmcgaaDoorT5
import Derived.Test.YtmkpbfghnkmcgaaDoorS1
import Derived.Test.YtmkpbfghnkmcgaaDoorM2
import Derived.Deep.RegionWith
namespace Go.Proofs.YtmkpbfghnkmcgaaDoor
open Go.RowKit

theorem mask_none (b : Int) : bits .andNot .i32 b (-1) = 0 := by
  have h : BitVec.ofInt 32 b &&& ~~~ (BitVec.ofInt 32 (-1)) = 0#32 := by
    rw [show ~~~ (BitVec.ofInt 32 (-1)) = 0#32 by decide]
    simp
  simp only [bits]
  show IntKind.i32.wrap ((BitVec.ofInt 32 b &&& ~~~ (BitVec.ofInt 32 (-1))).toNat : Int) = 0
  rw [h]
  rfl

set_option maxRecDepth 100000 in
set_option maxHeartbeats 2000000 in
theorem slow_bad (b off n c : Nat) (b0 : Int) (w : World) (hn : 0 < n) (hl : n < 1000000000) (h0 : 128 ≤ b0) (h0' : b0 ≤ 255)
    (c0 : w.cell? ⟨b, off, none⟩ = some (.int .u8 b0)) (hx : w.cell? ⟨0, b0.toNat, none⟩ = some (.int .u8 241)) :
    Calls Tryd.prog 64 #[.slice (some ⟨b, off, none⟩) n c] w fun e w' => e = .returned (.tuple #[.int .i32 65533, .int .i64 1]) ∧ w = w' := by
  go_enter Tryd.func64, Tryd.ntmps64
  go_wp2
  go_ret2
  refine ⟨?_, rfl⟩
  have e1 : wrap32 517543559168 / 2147483648 = -1 := by unfold wrap32; omega
  have e2 : bits .andNot .i32 b0 (-1) = 0 := mask_none b0
  have e3 : bits .and .i32 65533 (-1) = 65533 := by decide +kernel
  have e4 : bits .or .i32 0 65533 = 65533 := by decide +kernel
  show Ending.returned (Value.tuple #[.int .i32 (bits .or .i32 (bits .andNot .i32 b0 (wrap32 517543559168 / 2147483648)) (bits .and .i32 65533 (wrap32 517543559168 / 2147483648))), .int .i64 1]) = _
  rw [e1, e2, e3, e4]

set_option maxRecDepth 100000 in
set_option maxHeartbeats 4000000 in
theorem slow_good (b off n c : Nat) (b0 b1 b2 b3 x sz lo hi : Int) (w : World) (hn : 0 < n) (hl : n < 1000000000) (hb : b < w.heap.size) (h0 : 128 ≤ b0) (h0' : b0 ≤ 255)
    (h1 : 0 ≤ b1) (h1' : b1 ≤ 255) (h2 : 0 ≤ b2) (h2' : b2 ≤ 255) (h3 : 0 ≤ b3) (h3' : b3 ≤ 255) (hx0 : 0 ≤ x) (hx1 : x < 240) (hsz : x % 8 = sz) (hs1 : 2 ≤ sz) (hs2 : sz ≤ 4)
    (c0 : w.cell? ⟨b, off, none⟩ = some (.int .u8 b0)) (c1 : 1 < n → w.cell? ⟨b, off + 1, none⟩ = some (.int .u8 b1)) (c2 : 2 < n → w.cell? ⟨b, off + 2, none⟩ = some (.int .u8 b2)) (c3 : 3 < n → w.cell? ⟨b, off + 3, none⟩ = some (.int .u8 b3))
    (hx : w.cell? ⟨0, b0.toNat, none⟩ = some (.int .u8 x))
    (hlo : w.cell? ⟨1, (x / 16).toNat * 2, none⟩ = some (.int .u8 lo)) (hhi : w.cell? ⟨1, (x / 16).toNat * 2 + 1, none⟩ = some (.int .u8 hi)) :
    Calls Tryd.prog 64 #[.slice (some ⟨b, off, none⟩) n c] w fun e w' => e = .returned (.tuple #[.int .i32 (slowR n b0 b1 b2 b3 sz lo hi).1, .int .i64 (slowR n b0 b1 b2 b3 sz lo hi).2]) ∧ Below w.heap.size w w' := by
  have hb1 := (Below.refl w.heap.size w).alloc (Nat.le_refl _) (.cells #[.int .u8 lo, .int .u8 hi] 87)
  have ka := (Blk.new w 87 #[.int .u8 lo, .int .u8 hi]).cell 0 (u := .int .u8 lo) rfl
  have kb := (Blk.new w 87 #[.int .u8 lo, .int .u8 hi]).cell 1 (u := .int .u8 hi) rfl
  by_cases t0 : (n : Int) < sz
  · have e : Hid (slowR n b0 b1 b2 b3 sz lo hi = (65533, 1)) := Lib.hid (by unfold slowR; rw [if_pos (.inl t0)])
    clear c1 c2 c3
    go_enter Tryd.func64, Tryd.ntmps64
    go_wp2
    go_ret2
    rw [e.out]
    exact ⟨rfl, hb1⟩
  · have d1 := (hb1.cell (p := ⟨b, off + 1, none⟩) hb).trans (c1 (by omega))
    clear c1
    by_cases t1 : b1 < lo
    · have e : Hid (slowR n b0 b1 b2 b3 sz lo hi = (65533, 1)) := Lib.hid (by unfold slowR; rw [if_pos (.inr (.inl t1))])
      clear c2 c3
      go_enter Tryd.func64, Tryd.ntmps64
      go_wp2
      go_ret2
      rw [e.out]
      exact ⟨rfl, hb1⟩
    · by_cases t2 : hi < b1
      · have e : Hid (slowR n b0 b1 b2 b3 sz lo hi = (65533, 1)) := Lib.hid (by unfold slowR; rw [if_pos (.inr (.inr t2))])
        clear c2 c3
        go_enter Tryd.func64, Tryd.ntmps64
        go_wp2
        go_ret2
        rw [e.out]
        exact ⟨rfl, hb1⟩
      · have e0 : ¬ ((n : Int) < sz ∨ b1 < lo ∨ hi < b1) := by omega
        by_cases t3 : sz ≤ 2
        · have e : Hid (slowR n b0 b1 b2 b3 sz lo hi = (b0 % 32 * 64 + b1 % 64, 2)) := Lib.hid (by unfold slowR; rw [if_neg e0, if_pos t3])
          clear c2 c3
          go_enter Tryd.func64, Tryd.ntmps64
          go_wp2
          go_ret2
          rw [e.out]
          exact ⟨rfl, hb1⟩
        · have d2 := (hb1.cell (p := ⟨b, off + 2, none⟩) hb).trans (c2 (by omega))
          clear c2
          by_cases t4 : b2 < 128
          · have e : Hid (slowR n b0 b1 b2 b3 sz lo hi = (65533, 1)) := Lib.hid (by unfold slowR; rw [if_neg e0, if_neg t3, if_pos (.inl t4)])
            clear c3 e0
            go_enter Tryd.func64, Tryd.ntmps64
            go_wp2
            go_ret2
            rw [e.out]
            exact ⟨rfl, hb1⟩
          · by_cases t5 : 191 < b2
            · have e : Hid (slowR n b0 b1 b2 b3 sz lo hi = (65533, 1)) := Lib.hid (by unfold slowR; rw [if_neg e0, if_neg t3, if_pos (.inr t5)])
              clear c3 e0
              go_enter Tryd.func64, Tryd.ntmps64
              go_wp2
              go_ret2
              rw [e.out]
              exact ⟨rfl, hb1⟩
            · by_cases t6 : sz ≤ 3
              · have e : Hid (slowR n b0 b1 b2 b3 sz lo hi = (b0 % 16 * 4096 + b1 % 64 * 64 + b2 % 64, 3)) := Lib.hid (by unfold slowR; rw [if_neg e0, if_neg t3, if_neg (by omega), if_pos t6])
                clear c3 e0
                go_enter Tryd.func64, Tryd.ntmps64
                go_wp2
                go_ret2
                rw [e.out]
                exact ⟨rfl, hb1⟩
              · have d3 := (hb1.cell (p := ⟨b, off + 3, none⟩) hb).trans (c3 (by omega))
                clear c3
                by_cases t7 : b3 < 128
                · have e : Hid (slowR n b0 b1 b2 b3 sz lo hi = (65533, 1)) := Lib.hid (by unfold slowR; rw [if_neg e0, if_neg t3, if_neg (by omega), if_neg t6, if_pos (.inl t7)])
                  clear e0
                  go_enter Tryd.func64, Tryd.ntmps64
                  go_wp2
                  go_ret2
                  rw [e.out]
                  exact ⟨rfl, hb1⟩
                · by_cases t8 : 191 < b3
                  · have e : Hid (slowR n b0 b1 b2 b3 sz lo hi = (65533, 1)) := Lib.hid (by unfold slowR; rw [if_neg e0, if_neg t3, if_neg (by omega), if_neg t6, if_pos (.inr t8)])
                    clear e0
                    go_enter Tryd.func64, Tryd.ntmps64
                    go_wp2
                    go_ret2
                    rw [e.out]
                    exact ⟨rfl, hb1⟩
                  · have e : Hid (slowR n b0 b1 b2 b3 sz lo hi = (b0 % 8 * 262144 + b1 % 64 * 4096 + b2 % 64 * 64 + b3 % 64, 4)) := Lib.hid (by unfold slowR; rw [if_neg e0, if_neg t3, if_neg (by omega), if_neg t6, if_neg (by omega)])
                    clear e0
                    go_enter Tryd.func64, Tryd.ntmps64
                    go_wp2
                    go_ret2
                    rw [e.out]
                    exact ⟨rfl, hb1⟩

theorem byte_at {bs : List Int} (hb : ∀ b ∈ bs, isByte b) (k : Nat) : 0 ≤ nth bs k ∧ nth bs k ≤ 255 := by
  by_cases h : k < bs.length
  · exact hb _ (by simp [nth, List.getElem?_eq_getElem h])
  · simp [nth, List.getElem?_eq_none (by omega : bs.length ≤ k)]

theorem slow_any (A : Option Addr) (bs : List Int) (c : Nat) (w : World) (B : Nat) (hT : Tabs w) (hr : Rd w B A (nums .u8 bs)) (hB : B ≤ w.heap.size) (hb : ∀ b ∈ bs, isByte b) (h0 : 0 < bs.length) (hl : bs.length < 1000000000) (h128 : 128 ≤ nth bs 0) :
    Calls Tryd.prog 64 #[.slice A bs.length c] w fun e w' => e = .returned (.tuple #[.int .i32 (dr bs).1, .int .i64 (dr bs).2]) ∧ Below w.heap.size w w' := by
  obtain ⟨b, off, rfl, hbB, hc⟩ := hr.int h0
  have b0 := byte_at hb 0
  have t := tab_nat (nth bs 0).toNat (by omega)
  have e0 : ((nth bs 0).toNat : Int) = nth bs 0 := Int.toNat_of_nonneg b0.1
  rw [e0, if_neg (by omega)] at t
  have hx := hT.1 (nth bs 0).toNat (by omega)
  have ha := hT.2 (Lib.firstT (nth bs 0).toNat / 16) t.2.1
  have hc0 := hc 0 h0
  simp only [Nat.add_zero] at hc0
  have hs := size0_cases (nth bs 0)
  by_cases hs0 : 2 ≤ size0 (nth bs 0)
  · obtain ⟨el, eh⟩ := t.2.2.2 hs0
    have hlt : Lib.firstT (nth bs 0).toNat < 240 := by
      have : ∀ b : Nat, b < 256 → 128 ≤ b → 2 ≤ size0 b → Lib.firstT b < 240 := by decide +kernel
      exact this _ (by omega) (by omega) (by rw [e0]; exact hs0)
    obtain ⟨X, hX⟩ : ∃ X, X = Lib.firstT (nth bs 0).toNat := ⟨_, rfl⟩
    rw [← hX] at t hx ha hlt el eh
    have e1 : ((X : Int) / 16).toNat = X / 16 := by omega
    rw [if_neg (by omega)] at t
    refine (slow_good b off bs.length c (nth bs 0) (nth bs 1) (nth bs 2) (nth bs 3) X (size0 (nth bs 0)) (lo2 (nth bs 0)) (hi2 (nth bs 0)) w h0 hl (by omega) h128 b0.2 (byte_at hb 1).1 (byte_at hb 1).2 (byte_at hb 2).1 (byte_at hb 2).2 (byte_at hb 3).1 (byte_at hb 3).2
      (by omega) (by omega) t.1 hs0 (by omega) hc0 (fun h => hc 1 h) (fun h => hc 2 h) (fun h => hc 3 h) hx
      (by rw [e1, Nat.mul_comm, ← el]; exact ha.1) (by rw [e1, Nat.mul_comm, ← eh]; exact ha.2)).mono fun e w' ⟨he, hw⟩ => ⟨?_, hw⟩
    rw [he, slow_dr bs h0 hs0]
  · have hz : size0 (nth bs 0) = 0 := by
      rcases hs with e | e | e | e | e
      · exact e
      · unfold size0 at e
        rw [if_neg (by omega)] at e
        repeat' split at e
        all_goals omega
      · omega
      · omega
      · omega
    have hx241 : Lib.firstT (nth bs 0).toNat = 241 := by
      have : ∀ b : Nat, b < 256 → 128 ≤ b → size0 b = 0 → Lib.firstT b = 241 := by decide +kernel
      exact this _ (by omega) (by omega) (by rw [e0]; exact hz)
    rw [hx241] at hx
    refine (slow_bad b off bs.length c (nth bs 0) w h0 hl h128 b0.2 hc0 hx).mono fun e w' ⟨he, hw⟩ => ⟨?_, by subst hw; exact Below.refl _ _⟩
    rw [he, dr_invalid bs hz]

set_option maxRecDepth 100000 in
set_option maxHeartbeats 1000000 in
theorem decodeRune_any (A : Option Addr) (bs : List Int) (c : Nat) (w : World) (B : Nat) (hT : Tabs w) (hr : Rd w B A (nums .u8 bs)) (hB : B ≤ w.heap.size) (hb : ∀ b ∈ bs, isByte b) (h0 : 0 < bs.length) (hl : bs.length < 1000000000) :
    Calls Tryd.prog 62 #[.slice A bs.length c] w fun e w' => e = .returned (.tuple #[.int .i32 (dr bs).1, .int .i64 (dr bs).2]) ∧ Below w.heap.size w w' := by
  obtain ⟨b, off, rfl, hbB, hc⟩ := hr.int h0
  have hc0 := hc 0 h0
  simp only [Nat.add_zero] at hc0
  have b0 := byte_at hb 0
  have HR := Lib.hid hr
  have HT := Lib.hid hT
  have HB := Lib.hid hb
  clear hc hr hT hb
  by_cases h128 : nth bs 0 < 128
  · have E := Lib.hid (dr_ascii bs h0 h128)
    go_enter Tryd.func62, Tryd.ntmps62
    go_wp2
    refine wp_loop_rounds 1 ?_
    rw [rounds_succ]
    go_wp2
    go_ret2
    rw [E.out]
    exact ⟨rfl, Below.refl _ _⟩
  · go_enter Tryd.func62, Tryd.ntmps62
    go_wp2
    refine wp_loop_rounds 1 ?_
    rw [rounds_succ]
    go_wp2_with (go_at_call 64; refine (slow_any _ bs c _ B HT.out HR.out hB HB.out h0 hl (by omega)).mono ?_; rintro e w' ⟨rfl, hw⟩)
    go_ret2
    exact ⟨rfl, hw⟩

theorem isBeginning_n (A : Option Addr) (bs : List Int) (n c : Nat) (w : World) (B : Nat) (hn : bs.length = n) (hT : Tabs w) (hr : Rd w B A (nums .u8 bs)) (hB : B ≤ w.heap.size) (hb : ∀ b ∈ bs, isByte b) (hl : bs.length < 1000000000) :
    Calls Tryd.prog 49 #[.slice A n c] w fun e w' => e = .returned (.bool (decide (0 < bs.length) && begins bs)) ∧ Below w.heap.size w w' := by
  subst hn; exact isBeginning_any A bs c w B hT hr hB hb hl

set_option maxRecDepth 100000 in
set_option maxHeartbeats 1000000 in
theorem badSize_any (A : Option Addr) (bs : List Int) (c : Nat) (w : World) (B : Nat) (hT : Tabs w) (hr : Rd w B A (nums .u8 bs)) (hB : B ≤ w.heap.size) (hb : ∀ b ∈ bs, isByte b) (h0 : 0 < bs.length) (hl : bs.length < 1000000000) (hcap : bs.length ≤ c) (hn : (front bs : Int) ≠ size0 (nth bs 0)) :
    Calls Tryd.prog 63 #[.slice A bs.length c] w fun e w' => e = .returned (.int .i64 (front bs)) ∧ Below w.heap.size w w' := by
  obtain ⟨b, off, rfl, hbB, _⟩ := hr.int h0
  have HR := Lib.hid hr
  have HT := Lib.hid hT
  have HB := Lib.hid hb
  have HN := Lib.hid hn
  clear hr hT hb hn
  go_enter Tryd.func63, Tryd.ntmps63
  go_wp2
  go_loopw [3] (fun i wr => ∃ k : Nat, 1 ≤ k ∧ k ≤ 4 ∧ k ≤ bs.length ∧ i = .int .i64 k ∧ Hid (k ≤ front bs) ∧ Below w.heap.size w wr) (fun i _ => 5 - (intOf i).toNat)
  case atStart => exact ⟨1, by omega, by omega, by omega, rfl, Lib.hid (front_lo bs), Below.refl _ _⟩
  case round =>
    obtain ⟨k, hk1, hk4, hkl, rfl, hf, hbr⟩ := hrel
    have sz := hbr.size
    by_cases g1 : k < bs.length
    · have tl : (bs.take (k + 1)).length = k + 1 := by simp; omega
      have TL := Lib.hid tl
      clear tl
      by_cases g2 : begins (bs.take (k + 1)) = true
      · have G2 : Hid ((decide (0 < (bs.take (k + 1)).length) && begins (bs.take (k + 1))) = true) := Lib.hid (by rw [TL.out, g2]; simp)
        have GO := Lib.hid (begins_go bs k hk1 g1 hf.out g2)
        have h4 := front_hi bs
        have g4 : k + 1 ≤ 4 := Nat.le_trans GO.out h4
        clear g2 h4
        go_wp2_with (go_at_call 49; refine (isBeginning_n _ (bs.take (k + 1)) (k + 1) c _ B TL.out (HT.out.below hbr HT.out.lt.1 HT.out.lt.2) (by rw [nums_take]; exact (HR.out.below hbr hB).take _) (by omega) (fun b' h' => HB.out b' (List.mem_of_mem_take h')) (by rw [TL.out]; omega)).mono ?_; rintro e w' ⟨rfl, hw⟩; rw [G2.out])
        go_roundw
        case rel => exact ⟨k + 1, by omega, by omega, by omega, by go_num, GO, below_on hbr hw (Nat.le_refl _)⟩
        case measure => first | omega | (simp [intOf]; omega)
      · have G2 : Hid ((decide (0 < (bs.take (k + 1)).length) && begins (bs.take (k + 1))) = false) := Lib.hid (by simp [g2])
        have GE := Lib.hid (begins_end bs k hk1 g1 hf.out (by simpa using g2) HN.out)
        clear g2
        go_wp2_with (go_at_call 49; refine (isBeginning_n _ (bs.take (k + 1)) (k + 1) c _ B TL.out (HT.out.below hbr HT.out.lt.1 HT.out.lt.2) (by rw [nums_take]; exact (HR.out.below hbr hB).take _) (by omega) (fun b' h' => HB.out b' (List.mem_of_mem_take h')) (by rw [TL.out]; omega)).mono ?_; rintro e w' ⟨rfl, hw⟩; rw [G2.out])
        go_ret
        exact ⟨rint (by rw [GE.out]), below_on hbr hw (Nat.le_refl _)⟩
    · go_wp2
      go_ret
      exact ⟨rint (by rw [front_eq bs k hk1 hf.out (by omega)]), hbr⟩

set_option maxRecDepth 100000 in
set_option maxHeartbeats 2000000 in
theorem firstPiece_any (b off : Nat) (bs : List Int) (c : Nat) (w : World) (B : Nat) (hT : Tabs w) (hr : Rd w B (some ⟨b, off, none⟩) (nums .u8 bs)) (hB : B ≤ w.heap.size) (hb : ∀ b ∈ bs, isByte b) (h0 : 0 < bs.length) (hl : bs.length < 1000000000) (hcap : bs.length ≤ c) :
    Calls Tryd.prog 56 #[.slice (some ⟨b, off, none⟩) bs.length c] w fun e w' => e = .returned (.agg #[.slice (some ⟨b, off, none⟩) (front bs) c, .int .i64 (dr bs).1, .bool (opn bs)]) ∧ Below w.heap.size w w' := by
  have b0 := byte_at hb 0
  have fl := front_len bs h0
  have HR := Lib.hid hr
  have HT := Lib.hid hT
  have HB := Lib.hid hb
  clear hr hT hb
  have hb0 := (Below.refl w.heap.size w).alloc (Nat.le_refl _) (.cells #[.slice none 0 0, .int .i64 0, .bool false] 60)
  have k0 := Blk.new w 60 #[.slice none 0 0, .int .i64 0, .bool false]
  obtain ⟨F, hF⟩ : ∃ F, Hid (F = front bs) := ⟨_, Lib.hid rfl⟩
  rw [← hF.out] at fl ⊢
  by_cases g : (front bs : Int) = size0 (nth bs 0)
  · have hfull := full_of bs h0 b0.1 g
    have ED := Lib.hid (dr_full bs g)
    have EO : Hid (opn bs = false) := Lib.hid (by unfold opn; simp [g])
    obtain ⟨V, hV⟩ : ∃ V, Hid (V = val (bs.take (front bs))) := ⟨_, Lib.hid rfl⟩
    have vr := val_range _ hfull
    have v1 : F = 1 → V < 128 := fun h => by rw [hV.out]; exact val_one _ hfull (by simp; have := hF.out; omega)
    rw [← hV.out] at ED vr
    rw [← hF.out] at ED
    have flo := front_lo bs
    rw [← hF.out] at flo
    rw [EO.out]
    clear hfull g
    go_enter Tryd.func56, Tryd.ntmps56
    go_wp2_with fail
    refine (decodeRune_any _ bs c _ B (HT.out.alloc _) (HR.out.below hb0 hB) (by simp; omega) HB.out h0 hl).mono ?_
    rintro e w1 ⟨rfl, b1⟩
    rw [ED.out]
    have b2 := below_on hb0 b1 (Nat.le_refl _)
    have k1 := k0.below b1 k0.lt
    have hd0 := k1.cell 0 (u := .slice none 0 0) rfl
    have hd1 := k1.cell 1 (u := .int .i64 0) rfl
    have hd2 := k1.cell 2 (u := .bool false) rfl
    have hf0 := k1.frozen 0
    have hf1 := k1.frozen 1
    have hf2 := k1.frozen 2
    by_cases v2 : V = 65533
    · have hF1 : 1 < F := by
        rcases Nat.lt_or_ge 1 F with h | h
        · exact h
        · have := v1 (by omega); omega
      have j1 : (V != 65533) = false := by simp [v2]
      clear v1 v2
      go_wp2
      refine bodyPost_ret (v := .agg #[.slice (some ⟨b, off, none⟩) F c, .int .i64 V, .bool false]) (by simp [results, Tryd.results56, go_sem, hd0, hd1, hd2]) rfl ?_
      rw [ED.out]
      exact ⟨rfl, ((b2.setCell (by simp) _).setCell (by simp) _).setCell (by simp) _⟩
    · have j1 : (V != 65533) = true := by simp [v2]
      clear v1 v2
      go_wp2
      refine bodyPost_ret (v := .agg #[.slice (some ⟨b, off, none⟩) F c, .int .i64 V, .bool false]) (by simp [results, Tryd.results56, go_sem, hd0, hd1, hd2]) rfl ?_
      rw [ED.out]
      exact ⟨rfl, ((b2.setCell (by simp) _).setCell (by simp) _).setCell (by simp) _⟩
  · have ED := Lib.hid (dr_part bs g)
    have EO : Hid (opn bs = (decide (0 < bs.length) && begins bs)) := Lib.hid (by unfold opn; simp [g, h0])
    have HG := Lib.hid g
    clear g
    go_enter Tryd.func56, Tryd.ntmps56
    go_wp2_with fail
    refine (decodeRune_any _ bs c _ B (HT.out.alloc _) (HR.out.below hb0 hB) (by simp; omega) HB.out h0 hl).mono ?_
    rintro e w1 ⟨rfl, b1⟩
    rw [ED.out]
    have b2 := below_on hb0 b1 (Nat.le_refl _)
    have k1 := k0.below b1 k0.lt
    have hT1 := Lib.hid (HT.out.below b2 HT.out.lt.1 HT.out.lt.2)
    have hR1 := Lib.hid (HR.out.below b2 hB)
    have sz := b2.size
    go_wp2
    go_region_with (first
      | (go_at_call 63; refine (badSize_any _ bs c _ B (hT1.out.drew _) hR1.out (by simp; omega) HB.out h0 hl hcap HG.out).mono ?_; rintro e w2 ⟨rfl, b3⟩; rw [← hF.out])
      | (go_at_call 49; refine (isBeginning_any _ bs c _ B (hT1.out.on (below_of_drew b3)) (hR1.out.below (below_of_drew b3) (by omega)) (by have := (below_of_drew b3).size; omega) HB.out hl).mono ?_; rintro e w3 ⟨rfl, b4⟩; rw [← EO.out]; have b5 := below_on (below_of_drew b3) b4 (Nat.le_refl _); have k3 := k1.below b5 k1.lt; have hd0 := k3.cell 0 (u := .slice none 0 0) rfl; have hd1 := k3.cell 1 (u := .int .i64 0) rfl; have hd2 := k3.cell 2 (u := .bool false) rfl; have hf0 := k3.frozen 0; have hf1 := k3.frozen 1; have hf2 := k3.frozen 2))
    all_goals
      go_wp2
      refine bodyPost_ret (v := .agg #[.slice (some ⟨b, off, none⟩) F c, .int .i64 65533, .bool (opn bs)]) (by simp [results, Tryd.results56, go_sem, hd0, hd1, hd2]) rfl ?_
      rw [ED.out]
      exact ⟨rfl, (((below_on b2 b5 (Nat.le_refl _)).setCell (by simp) _).setCell (by simp) _).setCell (by simp) _⟩
end Go.Proofs.YtmkpbfghnkmcgaaDoor
