/- The draws of chapter 1: texts and bytes. -/
import Derived.Test.YtmkpbfghnkmcgaaDoorD2
namespace Go.Proofs.YtmkpbfghnkmcgaaDoor
open Go.RowKit

/-- behind the append of a round -/
theorem db_close {w w1 w2 : World} {g : Nat} {zs bs news : List Int} {at2 : Int} {v v' : Value} {m : Nat} (gl : g < w.heap.size) (r1 : w1.ownsRow w.heap.size 5 1 v bs.length (nums .u8 bs)) (S1 : Src w1 g zs at2) (ou1 : Out g (g + 1) w w1)
    (o2 : w2.ownsRow w.heap.size 5 1 v' (bs.length + m) (nums .u8 bs ++ nums .u8 news)) (hm : news.length = m) (g2 : w1.grownBy w2 v.ownBlock) :
    w2.ownsRow w.heap.size 5 1 v' (bs ++ news).length (nums .u8 (bs ++ news)) ∧ Src w2 g zs at2 ∧ Out g (g + 1) w w2 := by
  have ro := row_out r1 g2
  refine ⟨?_, S1.out ro gl, ou1.later ro (Nat.le_refl _)⟩
  subst hm
  simpa [nums] using o2

set_option maxRecDepth 100000 in
set_option maxHeartbeats 2000000 in
theorem l1DrawBytes_any (g : Nat) (zs : List Int) (at_ : Int) (n : Nat) (w : World) (hs : Src w g zs at_) (hb : ∀ b ∈ zs, isByte b) (hl : zs.length < 2000000) (ha : 0 ≤ at_ ∧ at_ + 3 * n + 10 ≤ 1000000) :
    Calls Tryd.prog 35 #[.pointer (some ⟨g, 0, none⟩), .int .i64 n] w fun e w' => (∃ v, e = .returned v ∧ ∃ bs, Own w' w.heap.size w'.heap.size 5 .u8 v bs ∧ bs.length ≤ 4 * n ∧ ∀ b ∈ bs, isByte b) ∧ (∃ at2, at_ ≤ at2 ∧ at2 ≤ at_ + 3 * n ∧ Src w' g zs at2) ∧ Out g (g + 1) w w' := by
  obtain ⟨i0, hi, hz0, hz1, hz2⟩ := info_parts info_uint8
  have HB := Lib.hid hb
  have HS := Lib.hid hs
  have gl := hs.lt
  clear hs hb
  go_enter Tryd.func35, Tryd.ntmps35
  go_wp2
  go_loopw [1, 5] (fun nv v wr => ∃ (k : Nat) (bs : List Int) (at2 : Int), k ≤ n ∧ bs.length ≤ 4 * k ∧ nv = .int .i64 ((n : Int) - k) ∧ at_ ≤ at2 ∧ at2 ≤ at_ + 3 * k ∧ Hid (∀ t ∈ bs, isByte t) ∧ Hid (wr.ownsRow w.heap.size 5 1 v bs.length (nums .u8 bs)) ∧ Hid (Src wr g zs at2) ∧ Out g (g + 1) w wr) (fun nv _ _ => (intOf nv).toNat)
  case atStart => exact ⟨0, [], at_, by omega, by simp, by simp, by omega, by omega, Lib.hid (by simp), Lib.hid (by simpa [nums] using own_new w 5 #[] 0 rfl (by omega)), Lib.hid (HS.out.alloc _), (Out.refl _ _ _).alloc _⟩
  case round =>
    obtain ⟨k, bs, at2, hk, hbl, rfl, ha1, ha2, ht, ho, hsr, hou⟩ := hrel
    have sz := hou.size
    by_cases hlt : k < n
    · have c0 : (0 : Int) < (n : Int) - k := by omega
      obtain ⟨A1, c1, rfl⟩ := own_form ho.out
      have xr := nxt_range zs at2 12 (by omega)
      obtain ⟨x, hx⟩ : ∃ x, Hid (x = nxt zs at2 12) := ⟨_, Lib.hid rfl⟩
      rw [← hx.out] at xr
      go_wp2_with fail
      refine (next_src g zs _ 12 wr hsr.out HB.out hl (by omega) (by omega)).mono ?_
      rintro e w1 ⟨rfl, hs1, o1⟩
      rw [← hx.out]
      have S1 := Lib.hid hs1
      have r1 := Lib.hid ((Own.mk_ (kd := .u8) (zs := bs) ho.out rfl).out o1 (.inr (by omega)))
      have ou1 := hou.trans o1
      have sz1 := ou1.size
      have szr := o1.size
      clear o1 hs1 ho hsr hou sz
      by_cases x0 : x = 0
      · have y0 : (x == 0) = true := by simp [x0]
        clear x0 xr
        go_wp2_with fail
        refine (l1Pick_any g w1.heap.size 11 2 [128, 191, 192, 193, 194, 224, 237, 240, 244, 245, 255] zs _ _ (Blk.new w1 _ _) (by omega) rfl (by omega) (by omega) (S1.out.alloc _) HB.out hl (by omega)).mono ?_
        rintro e w2 ⟨rfl, hs2, o2⟩
        have pr := (by decide : ∀ y ∈ ([128, 191, 192, 193, 194, 224, 237, 240, 244, 245, 255] : List Int), 0 ≤ y ∧ y ≤ 255) _ (pick_in [128, 191, 192, 193, 194, 224, 237, 240, 244, 245, 255] zs (at2 + 1) 11 rfl (by omega))
        obtain ⟨p, hp⟩ : ∃ p, Hid (p = nth [128, 191, 192, 193, 194, 224, 237, 240, 244, 245, 255] (nxt zs (at2 + 1) ((11 : Nat) : Int)).toNat) := ⟨_, Lib.hid rfl⟩
        rw [← hp.out] at pr ⊢
        have wp : IntKind.u8.wrap p = p := IntWalk.u8_in _ (by omega)
        have S2 := Lib.hid hs2
        have ou2 := (ou1.alloc _).trans o2
        have r2 := Lib.hid ((r1.out.alloc _).out o2 (.inr (by omega)))
        have sz2 := ou2.size
        clear o2 hs2
        go_wp2_with (at_builtin; refine wpList_app rfl _ _ _ rfl w.heap.size Tryd.underlying22 hi hz0 hz1 hz2 rfl (by omega) rfl ((r2.out.alloc _).1) rfl (Rd.lit _ #[.int .u8 p] _) (m := 1) rfl (nums_one .u8 [p]) (by omega) (by omega) (by simp; omega) ?_; intro v' w3 o3 g3 a3)
        have fin := db_close (news := [p]) gl (r2.out.alloc _).1 (S2.out.alloc _) (ou2.alloc _) o3 rfl g3
        clear g3 a3 o3
        obtain ⟨A4, c4, rfl⟩ := own_form fin.1
        go_roundw
        case rel => exact ⟨k + 1, bs ++ [p], _, by omega, by simp; omega, by simp; omega, by omega, by omega, Lib.hid (fun t h => by rcases List.mem_append.1 h with h | h; exact ht.out t h; rw [List.mem_singleton.1 h]; exact pr), Lib.hid fin.1, Lib.hid fin.2.1, fin.2.2⟩
        case measure => first | omega | (simp [intOf]; omega)
      · have y0 : (x == 0) = false := beq_eq_false_iff_ne.2 x0
        by_cases x1 : x = 1
        · have y1 : (x == 1) = true := by simp [x1]
          clear x0 x1 xr
          go_wp2_with fail
          refine (l1Pick_any g w1.heap.size 8 2 [233, 1488, 8364, 128512, 65533, 55295, 57344, 1114111] zs _ _ (Blk.new w1 _ _) (by omega) rfl (by omega) (by omega) (S1.out.alloc _) HB.out hl (by omega)).mono ?_
          rintro e w2 ⟨rfl, hs2, o2⟩
          have pr := (by decide : ∀ y ∈ ([233, 1488, 8364, 128512, 65533, 55295, 57344, 1114111] : List Int), chrB y = true) _ (pick_in [233, 1488, 8364, 128512, 65533, 55295, 57344, 1114111] zs (at2 + 1) 8 rfl (by omega))
          obtain ⟨p, hp⟩ : ∃ p, Hid (p = nth [233, 1488, 8364, 128512, 65533, 55295, 57344, 1114111] (nxt zs (at2 + 1) ((8 : Nat) : Int)).toNat) := ⟨_, Lib.hid rfl⟩
          rw [← hp.out] at pr ⊢
          have S2 := Lib.hid hs2
          have ou2 := (ou1.alloc _).trans o2
          have r2 := Lib.hid ((r1.out.alloc _).out o2 (.inr (by omega)))
          have sz2 := ou2.size
          have szr2 := o2.size
          rw [World.size_alloc] at szr2
          clear o2 hs2
          go_wp2_with fail
          refine (l1Char_any p w2 (chrB_range pr).1 (chrB_range pr).2).mono ?_
          rintro e w3 ⟨⟨A3, c3, rfl, o3⟩, b3⟩
          have cp := own_cap o3
          unfold maxLen at cp
          have el := enc1_len p
          have ep := enc1_pos p
          have S3 := Lib.hid (S2.out.below b3)
          have ou3 := ou2.trans (Out.of_below (lo := g) (hi := g + 1) b3)
          have r3 := Lib.hid (r2.out.below b3 (by omega))
          have c3' := Lib.hid (Own.mk_ (kd := .u8) o3 rfl)
          have sz3 := ou3.size
          have sz3' := b3.size
          clear o3 b3
          have mr := nxt_range zs (at2 + 1 + 1) (enc1 p).length (by omega)
          obtain ⟨M, hM⟩ : ∃ M : Nat, Hid (nxt zs (at2 + 1 + 1) (enc1 p).length = M) := ⟨(nxt zs (at2 + 1 + 1) (enc1 p).length).toNat, Lib.hid (by omega)⟩
          rw [hM.out] at mr
          go_wp2_with fail
          refine (next_src g zs _ (enc1 p).length w3 S3.out HB.out hl (by omega) (by omega)).mono ?_
          rintro e w4 ⟨rfl, hs4, o4⟩
          rw [hM.out]
          have S4 := Lib.hid hs4
          have ou4 := ou3.trans o4
          have r4 := Lib.hid (r3.out.out o4 (.inr (by omega)))
          have c4 := Lib.hid (c3'.out.out o4 (.inr (by omega)))
          have sz4 := ou4.size
          have m1 : (1 : Int) + M ≤ (enc1 p).length := by omega
          have m2 : (1 : Int) + M = ((M + 1 : Nat) : Int) := by omega
          have w0 : IntKind.i64.wrap (1 + (M : Int)) = 1 + (M : Int) := IntWalk.i64_in _ (by omega)
          clear o4 hs4
          have tl : ((enc1 p).take (M + 1)).length = M + 1 := by rw [List.length_take]; omega
          have TL := Lib.hid tl
          have ct := (c4.out.cut (m := M + 1) (by omega)).1
          rw [tl] at ct
          have RD := Lib.hid (Rd.of ct)
          clear tl ct
          go_wp2_with (at_builtin; refine wpList_app rfl _ _ _ rfl w.heap.size Tryd.underlying22 hi hz0 hz1 hz2 rfl (by omega) rfl (r4.out.1) rfl RD.out (by rw [nums_length, Nat.mul_one]; exact TL.out) (nums_one _ _) (by omega) (by omega) (by omega) ?_; intro v' w5 o5 g5 a5)
          have fin := db_close gl r4.out.1 S4.out ou4 o5 TL.out g5
          clear g5 a5 o5
          obtain ⟨A6, c6, rfl⟩ := own_form fin.1
          go_roundw
          case rel => exact ⟨k + 1, bs ++ (enc1 p).take (M + 1), _, by omega, by rw [List.length_append, TL.out]; omega, by simp; omega, by omega, by omega, Lib.hid (fun t h => by rcases List.mem_append.1 h with h | h; exact ht.out t h; exact enc1_byte p pr t (List.mem_of_mem_take h)), Lib.hid fin.1, Lib.hid fin.2.1, fin.2.2⟩
          case measure => first | omega | (simp [intOf]; omega)
        · have y1 : (x == 1) = false := beq_eq_false_iff_ne.2 x1
          by_cases x2 : x = 2
          · have y2 : (x == 2) = true := by simp [x2]
            clear x0 x1 x2 xr
            go_wp2_with fail
            refine (l1Pick_any g w1.heap.size 3 2 [10, 13, 10] zs _ _ (Blk.new w1 _ _) (by omega) rfl (by omega) (by omega) (S1.out.alloc _) HB.out hl (by omega)).mono ?_
            rintro e w2 ⟨rfl, hs2, o2⟩
            have pr := (by decide : ∀ y ∈ ([10, 13, 10] : List Int), 0 ≤ y ∧ y ≤ 255) _ (pick_in [10, 13, 10] zs (at2 + 1) 3 rfl (by omega))
            obtain ⟨p, hp⟩ : ∃ p, Hid (p = nth [10, 13, 10] (nxt zs (at2 + 1) ((3 : Nat) : Int)).toNat) := ⟨_, Lib.hid rfl⟩
            rw [← hp.out] at pr ⊢
            have wp : IntKind.u8.wrap p = p := IntWalk.u8_in _ (by omega)
            have S2 := Lib.hid hs2
            have ou2 := (ou1.alloc _).trans o2
            have r2 := Lib.hid ((r1.out.alloc _).out o2 (.inr (by omega)))
            have sz2 := ou2.size
            clear o2 hs2
            go_wp2_with (at_builtin; refine wpList_app rfl _ _ _ rfl w.heap.size Tryd.underlying22 hi hz0 hz1 hz2 rfl (by omega) rfl ((r2.out.alloc _).1) rfl (Rd.lit _ #[.int .u8 p] _) (m := 1) rfl (nums_one .u8 [p]) (by omega) (by omega) (by simp; omega) ?_; intro v' w3 o3 g3 a3)
            have fin := db_close (news := [p]) gl (r2.out.alloc _).1 (S2.out.alloc _) (ou2.alloc _) o3 rfl g3
            clear g3 a3 o3
            obtain ⟨A4, c4, rfl⟩ := own_form fin.1
            go_roundw
            case rel => exact ⟨k + 1, bs ++ [p], _, by omega, by simp; omega, by simp; omega, by omega, by omega, Lib.hid (fun t h => by rcases List.mem_append.1 h with h | h; exact ht.out t h; rw [List.mem_singleton.1 h]; exact pr), Lib.hid fin.1, Lib.hid fin.2.1, fin.2.2⟩
            case measure => first | omega | (simp [intOf]; omega)
          · have y2 : (x == 2) = false := beq_eq_false_iff_ne.2 x2
            go_wp2_with fail
            refine (l1DrawChar_any g zs _ w1 S1.out HB.out hl (by omega)).mono ?_
            rintro e w2 ⟨⟨p, rfl, pr⟩, hs2, o2⟩
            have S2 := Lib.hid hs2
            have ou2 := ou1.trans o2
            have r2 := Lib.hid (r1.out.out o2 (.inr (by omega)))
            have sz2 := ou2.size
            have szr2 := o2.size
            clear o2 hs2
            go_wp2_with fail
            refine (l1Char_any p w2 (chrB_range pr).1 (chrB_range pr).2).mono ?_
            rintro e w3 ⟨⟨A3, c3, rfl, o3⟩, b3⟩
            have el := enc1_len p
            have S3 := Lib.hid (S2.out.below b3)
            have ou3 := ou2.trans (Out.of_below (lo := g) (hi := g + 1) b3)
            have r3 := Lib.hid (r2.out.below b3 (by omega))
            have RD := Lib.hid (Rd.of o3)
            have sz3 := ou3.size
            clear o3 b3
            go_wp2_with (at_builtin; refine wpList_app rfl _ _ _ rfl w.heap.size Tryd.underlying22 hi hz0 hz1 hz2 rfl (by omega) rfl (r3.out.1) rfl RD.out (by rw [nums_length, Nat.mul_one]) (nums_one _ _) (by omega) (by omega) (by omega) ?_; intro v' w5 o5 g5 a5)
            have fin := db_close gl r3.out.1 S3.out ou3 o5 rfl g5
            clear g5 a5 o5
            obtain ⟨A6, c6, rfl⟩ := own_form fin.1
            go_roundw
            case rel => exact ⟨k + 1, bs ++ enc1 p, _, by omega, by rw [List.length_append]; omega, by simp; omega, by omega, by omega, Lib.hid (fun t h => by rcases List.mem_append.1 h with h | h; exact ht.out t h; exact enc1_byte p pr t h), Lib.hid fin.1, Lib.hid fin.2.1, fin.2.2⟩
            case measure => first | omega | (simp [intOf]; omega)
    · obtain rfl : k = n := by omega
      have c0 : ¬ (0 : Int) < (k : Int) - k := by omega
      go_wp2
      go_ret
      exact ⟨⟨_, rfl, bs, Own.mk_ ho.out rfl, hbl, ht.out⟩, ⟨at2, ha1, ha2, hsr.out⟩, hou⟩
end Go.Proofs.YtmkpbfghnkmcgaaDoor
