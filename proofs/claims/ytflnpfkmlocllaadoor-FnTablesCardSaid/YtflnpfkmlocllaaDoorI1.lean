/- The draws of chapter 2. -/
import Derived.Test.YtflnpfkmlocllaaDoorD6
namespace Go.Proofs.YtflnpfkmlocllaaDoor
open Go.RowKit

def edgeL : List Int := [10, 13, 9, 32, 48, 57, 35, 37, 43, 45, 44, 46, 47, 58, 65, 90, 97, 122, 31, 127, 159, 173, 191, 192, 768, 879, 1488, 1514, 1569, 1594, 1595, 1600, 1601, 1610, 1611, 1618, 1632, 1641, 8203, 8233, 8234, 8238, 8294, 8297, 9001, 12297, 65533, 55296, -1, 1114111, 1114112]
set_option maxRecDepth 100000 in
set_option maxHeartbeats 1000000 in
theorem l2Draw_any (g : Nat) (zs : List Int) (at_ : Int) (w : World) (hs : Src w g zs at_) (hb : ∀ b ∈ zs, isByte b) (hl : zs.length < 2000000) (ha : 0 ≤ at_ ∧ at_ + 20 ≤ 1000000) :
    Calls Tryd.prog 73 #[.pointer (some ⟨g, 0, none⟩)] w fun e w' => (∃ c at', e = .returned (.int .i64 c) ∧ -2 ≤ c ∧ c ≤ 1114113 ∧ at_ ≤ at' ∧ at' ≤ at_ + 4 ∧ Src w' g zs at') ∧ Out g (g + 1) w w' := by
  have HB := Lib.hid hb
  have HS := Lib.hid hs
  have gl := hs.lt
  have pr := Lib.hid ((by decide : ∀ y ∈ edgeL, -1 ≤ y ∧ y ≤ 1114112) _ (pick_in edgeL zs at_ 51 rfl (by omega)))
  have kb := Lib.hid (show Blk (w.alloc (.cells #[.int .i64 10, .int .i64 13, .int .i64 9, .int .i64 32, .int .i64 48, .int .i64 57, .int .i64 35, .int .i64 37, .int .i64 43, .int .i64 45, .int .i64 44, .int .i64 46, .int .i64 47, .int .i64 58, .int .i64 65, .int .i64 90, .int .i64 97, .int .i64 122, .int .i64 31, .int .i64 127, .int .i64 159, .int .i64 173, .int .i64 191, .int .i64 192, .int .i64 768, .int .i64 879, .int .i64 1488, .int .i64 1514, .int .i64 1569, .int .i64 1594, .int .i64 1595, .int .i64 1600, .int .i64 1601, .int .i64 1610, .int .i64 1611, .int .i64 1618, .int .i64 1632, .int .i64 1641, .int .i64 8203, .int .i64 8233, .int .i64 8234, .int .i64 8238, .int .i64 8294, .int .i64 8297, .int .i64 9001, .int .i64 12297, .int .i64 65533, .int .i64 55296, .int .i64 (-1), .int .i64 1114111, .int .i64 1114112] 2)) w.heap.size 2 (Array.mk (nums .i64 edgeL)) from Blk.new w _ _)
  clear hs hb
  go_enter Tryd.func73, Tryd.ntmps73
  go_wp2_with fail
  refine (l1Pick_any g w.heap.size 51 2 edgeL zs at_ _ kb.out (by omega) rfl (by omega) (by omega) (HS.out.alloc _) HB.out hl (by omega)).mono ?_
  rintro e w1 ⟨rfl, hs1, o1⟩
  obtain ⟨E, hE⟩ : ∃ E, Hid (nth edgeL (nxt zs at_ ((51 : Nat) : Int)).toNat = E) := ⟨_, Lib.hid rfl⟩
  rw [hE.out]
  have er : -1 ≤ E ∧ E ≤ 1114112 := by rw [← hE.out]; exact pr.out
  have S1 := Lib.hid hs1
  have a1 : Out g (g + 1) w w1 := ((Out.refl _ _ w).alloc _).trans o1
  have z1 := o1.size
  rw [World.size_alloc] at z1
  clear hs1 o1 kb pr
  go_wp2_with fail
  refine (l1Chance_any g zs _ 2 w1 S1.out HB.out hl (by omega) (by omega)).mono ?_
  rintro e w2 ⟨rfl, hs2, o2⟩
  have S2 := Lib.hid hs2
  have a2 := a1.trans o2
  have z2 := o2.size
  clear hs2 o2 a1
  cases hC : (nxt zs (at_ + 1) 2 == 0)
  · go_wp2_with fail
    refine (l1Pick_any g w2.heap.size 5 2 [0, 0, 0, 1, -1] zs _ _ (Blk.new w2 _ _) (by omega) rfl (by omega) (by omega) (S2.out.alloc _) HB.out hl (by omega)).mono ?_
    rintro e w3 ⟨rfl, hs3, o3⟩
    have pr := (by decide : ∀ y ∈ ([0, 0, 0, 1, -1] : List Int), -1 ≤ y ∧ y ≤ 1) _ (pick_in [0, 0, 0, 1, -1] zs (at_ + 1 + 1) 5 rfl (by omega))
    obtain ⟨D, hD⟩ : ∃ D, Hid (nth [0, 0, 0, 1, -1] (nxt zs (at_ + 1 + 1) ((5 : Nat) : Int)).toNat = D) := ⟨_, Lib.hid rfl⟩
    rw [hD.out] at pr ⊢
    have S3 := Lib.hid hs3
    have a3 := (a2.alloc (.cells #[.int .i64 0, .int .i64 0, .int .i64 0, .int .i64 1, .int .i64 (-1)] 2)).trans o3
    clear hs3 o3 a2
    go_wp2
    go_ret
    exact ⟨⟨_, _, rfl, by omega, by omega, by omega, by omega, S3.out⟩, a3⟩
  · go_wp2_with fail
    refine (l1DrawChar_any g zs _ w2 S2.out HB.out hl (by omega)).mono ?_
    rintro e w3 ⟨⟨c, rfl, hc⟩, hs3, o3⟩
    have cr := chrB_range hc
    have a3 := a2.trans o3
    go_wp2
    go_ret
    exact ⟨⟨_, _, rfl, by omega, by omega, by omega, by omega, hs3⟩, a3⟩

set_option maxRecDepth 100000 in
set_option maxHeartbeats 1000000 in
theorem drawMirrorOf_any (A : Option Addr) (c : Nat) (zs : List Int) (w : World) (hr : Rd w w.heap.size A (nums .u8 zs)) (hb : ∀ b ∈ zs, isByte b) (hl : zs.length < 2000000) :
    Calls Tryd.prog 29 #[.slice A zs.length c] w fun e w' => (∃ x, e = .returned (.int .i64 x) ∧ -2 ≤ x ∧ x ≤ 1114113) ∧ Below w.heap.size w w' := by
  go_enter Tryd.func29, Tryd.ntmps29
  go_wp2_with fail
  refine (l1Source_any A c zs w hr).mono ?_
  rintro e w1 ⟨rfl, hs1, b1⟩
  go_wp2_with fail
  refine (l2Draw_any w.heap.size zs 0 w1 hs1 hb hl (by omega)).mono ?_
  rintro e w2 ⟨⟨x, at2, rfl, x0, x1, _, _, hs2⟩, o2⟩
  have bo := out_new b1 o2
  clear o2 hs2 hs1 b1
  go_wp2
  go_ret
  exact ⟨⟨_, rfl, x0, x1⟩, bo⟩

set_option maxRecDepth 100000 in
set_option maxHeartbeats 1000000 in
theorem drawIsRemoved_any (A : Option Addr) (c : Nat) (zs : List Int) (w : World) (hr : Rd w w.heap.size A (nums .u8 zs)) (hb : ∀ b ∈ zs, isByte b) (hl : zs.length < 2000000) :
    Calls Tryd.prog 38 #[.slice A zs.length c] w fun e w' => (∃ x, e = .returned (.int .i64 x) ∧ -1 ≤ x ∧ x ≤ 26) ∧ Below w.heap.size w w' := by
  have zr := nxt_range zs 0 26 (by omega)
  obtain ⟨n, hn⟩ : ∃ n : Int, Hid (nxt zs 0 26 = n) := ⟨_, Lib.hid rfl⟩
  rw [hn.out] at zr
  go_enter Tryd.func38, Tryd.ntmps38
  go_wp2_with fail
  refine (l1Source_any A c zs w hr).mono ?_
  rintro e w1 ⟨rfl, hs1, b1⟩
  go_wp2_with fail
  refine (next_src w.heap.size zs 0 26 w1 hs1 hb hl (by omega) (by omega)).mono ?_
  rintro e w2 ⟨rfl, hs2, o2⟩
  rw [hn.out]
  have bo := out_new b1 o2
  clear o2 hs2 hs1 b1
  go_wp2
  go_ret
  exact ⟨⟨_, rfl, by omega, by omega⟩, bo⟩

set_option maxRecDepth 100000 in
set_option maxHeartbeats 1000000 in
theorem l2Letter_any (g : Nat) (zs : List Int) (at_ : Int) (w : World) (hs : Src w g zs at_) (hb : ∀ b ∈ zs, isByte b) (hl : zs.length < 2000000) (ha : 0 ≤ at_ ∧ at_ + 40 ≤ 1000000) :
    Calls Tryd.prog 77 #[.pointer (some ⟨g, 0, none⟩)] w fun e w' => (∃ c at', e = .returned (.int .i64 c) ∧ -2 ≤ c ∧ c ≤ 1114113 ∧ at_ ≤ at' ∧ at' ≤ at_ + 6 ∧ Src w' g zs at') ∧ Out g (g + 1) w w' := by
  have HB := Lib.hid hb
  clear hb
  go_enter Tryd.func77, Tryd.ntmps77
  go_wp2_with fail
  refine (l1Chance_any g zs _ 4 w hs HB.out hl (by omega) (by omega)).mono ?_
  rintro e w2 ⟨rfl, hs2, o2⟩
  have S2 := Lib.hid hs2
  clear hs2
  cases hC : (nxt zs at_ 4 == 0)
  · have zr := nxt_range zs (at_ + 1) 45 (by omega)
    obtain ⟨n, hn⟩ : ∃ n : Int, Hid (nxt zs (at_ + 1) 45 = n) := ⟨_, Lib.hid rfl⟩
    rw [hn.out] at zr
    go_wp2_with fail
    refine (next_src g zs _ 45 w2 S2.out HB.out hl (by omega) (by omega)).mono ?_
    rintro e w3 ⟨rfl, hs3, o3⟩
    rw [hn.out]
    have S3 := Lib.hid hs3
    have a3 := o2.trans o3
    clear o2 o3 hs3
    go_wp2
    go_ret
    exact ⟨⟨_, _, rfl, by omega, by omega, by omega, by omega, S3.out⟩, a3⟩
  · go_wp2_with fail
    refine (l2Draw_any g zs _ w2 S2.out HB.out hl (by omega)).mono ?_
    rintro e w3 ⟨⟨x, at3, rfl, x0, x1, t0, t1, hs3⟩, o3⟩
    have S3 := Lib.hid hs3
    have a3 := o2.trans o3
    clear o2 o3 hs3
    go_wp2
    go_ret
    exact ⟨⟨_, _, rfl, x0, x1, by omega, by omega, S3.out⟩, a3⟩

set_option maxRecDepth 100000 in
set_option maxHeartbeats 1000000 in
theorem drawFormOf_any (A : Option Addr) (c : Nat) (zs : List Int) (w : World) (hr : Rd w w.heap.size A (nums .u8 zs)) (hb : ∀ b ∈ zs, isByte b) (hl : zs.length < 2000000) :
    Calls Tryd.prog 33 #[.slice A zs.length c] w fun e w' => (∃ x b1 b2, e = .returned (.tuple #[.int .i64 x, .bool b1, .bool b2]) ∧ -2 ≤ x ∧ x ≤ 1114113) ∧ Below w.heap.size w w' := by
  have HB := Lib.hid hb
  clear hb
  go_enter Tryd.func33, Tryd.ntmps33
  go_wp2_with fail
  refine (l1Source_any A c zs w hr).mono ?_
  rintro e w1 ⟨rfl, hs1, b1⟩
  go_wp2_with fail
  refine (l2Letter_any w.heap.size zs 0 w1 hs1 HB.out hl (by omega)).mono ?_
  rintro e w2 ⟨⟨x, at2, rfl, x0, x1, t0, t1, hs2⟩, o2⟩
  go_wp2_with fail
  refine (l1Chance_any w.heap.size zs _ 2 w2 hs2 HB.out hl (by omega) (by omega)).mono ?_
  rintro e w3 ⟨rfl, hs3, o3⟩
  go_wp2_with fail
  refine (l1Chance_any w.heap.size zs _ 2 w3 hs3 HB.out hl (by omega) (by omega)).mono ?_
  rintro e w4 ⟨rfl, hs4, o4⟩
  have bo := out_new b1 ((o2.trans o3).trans o4)
  clear o2 hs2 hs1 b1 o3 hs3 o4 hs4
  go_wp2
  go_ret3
  exact ⟨⟨_, _, _, rfl, x0, x1⟩, bo⟩

set_option maxRecDepth 100000 in
set_option maxHeartbeats 1000000 in
theorem drawLigatureOf_any (A : Option Addr) (c : Nat) (zs : List Int) (w : World) (hr : Rd w w.heap.size A (nums .u8 zs)) (hb : ∀ b ∈ zs, isByte b) (hl : zs.length < 2000000) :
    Calls Tryd.prog 36 #[.slice A zs.length c] w fun e w' => (∃ x b1, e = .returned (.tuple #[.int .i64 x, .bool b1]) ∧ -1 ≤ x ∧ x ≤ 1575) ∧ Below w.heap.size w w' := by
  have HB := Lib.hid hb
  clear hb
  go_enter Tryd.func36, Tryd.ntmps36
  go_wp2_with fail
  refine (l1Source_any A c zs w hr).mono ?_
  rintro e w1 ⟨rfl, hs1, b1⟩
  have gl := hs1.lt
  go_wp2_with fail
  refine (l1Pick_any w.heap.size w1.heap.size 8 2 [1570, 1571, 1572, 1573, 1574, 1575, 65, -1] zs 0 _ (Blk.new w1 _ _) (by omega) rfl (by omega) (by omega) (hs1.alloc _) HB.out hl (by omega)).mono ?_
  rintro e w2 ⟨rfl, hs2, o2⟩
  have pr := (by decide : ∀ y ∈ ([1570, 1571, 1572, 1573, 1574, 1575, 65, -1] : List Int), -1 ≤ y ∧ y ≤ 1575) _ (pick_in [1570, 1571, 1572, 1573, 1574, 1575, 65, -1] zs 0 8 rfl (by omega))
  go_wp2_with fail
  refine (l1Chance_any w.heap.size zs _ 2 w2 hs2 HB.out hl (by omega) (by omega)).mono ?_
  rintro e w3 ⟨rfl, hs3, o3⟩
  have bo := out_new b1 ((((Out.refl _ _ w1).alloc _).trans o2).trans o3)
  clear o2 hs2 hs1 b1 o3 hs3
  go_wp2
  go_ret2
  exact ⟨⟨_, _, rfl, pr⟩, bo⟩
end Go.Proofs.YtflnpfkmlocllaaDoor
