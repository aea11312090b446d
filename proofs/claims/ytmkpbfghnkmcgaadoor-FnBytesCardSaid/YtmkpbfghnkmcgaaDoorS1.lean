/- The library's slices at the program's own types: Grow of nil, Concat, Clone. -/
import Derived.Test.YtmkpbfghnkmcgaaDoorH1
import Derived.Lib.AppendZerosOnto
import Derived.Lib.AppendZeros
import Derived.Lib.SliceRun
namespace Go.Proofs.YtmkpbfghnkmcgaaDoor
open Go.RowKit

set_option maxRecDepth 100000 in
set_option maxHeartbeats 1000000 in
theorem growByte_any (n : Nat) (w : World) (hn : n < 10000000000) :
    Calls Tryd.prog 57 #[.slice none 0 0, .int .i64 n] w fun e w' => (∃ A c, e = .returned (.slice A 0 c) ∧ w'.ownsRow w.heap.size 5 1 (.slice A 0 c) 0 []) ∧ Below w.heap.size w w' := by
  obtain ⟨i0, hi, hz0, hz1, hz2⟩ := info_parts info_uint8
  by_cases h0 : n = 0
  · subst h0
    go_enter Tryd.func57, Tryd.ntmps57
    go_wp2
    go_ret
    exact ⟨⟨_, _, rfl, World.ownsRow_nil _ _ _ _⟩, Below.refl _ _⟩
  · have hold : (Builtin.firstCells i0.size 0 (.slice none 0 0)).run Tryd.prog w.drew = .ok (([] : List Value).toArray) w.drew := run_firstCells_none w.drew i0.size 0 0 0
    have hrz : ∀ ty, (Builtin.append_ #[22, 3] ty #[.slice none 0 0, .int .i64 (n : Int)]).run Tryd.prog w = .ok (.slice (some ⟨w.heap.size, 0, none⟩) n (grownCap w n 0 5))
        (w.drew.alloc (.cells (Builtin.zeroCells (Value.int .u8 0).cells n ++ Builtin.zeroCells (Value.int .u8 0).cells (grownCap w n 0 5 - n)) 5)) := fun ty => by
      have h := Lib.run_append_grow_zeros w 22 3 ty 5 i0 (.int .u8 0) .i64 .i64 Tryd.underlying22 Tryd.underlying3 hi hz0 none 0 0 [] hold n (by omega) (by omega) (by omega) (by omega) (by rw [hz2]; omega)
        (growslice_fits (by omega) (by rw [hz2]; omega))
      simpa using h
    have hge := grownCap_ge w n 0 5
    have hcm := grownCap_le_maxLen w n 0 5 (by unfold maxLen; omega)
    obtain ⟨G, hG⟩ : ∃ G, G = grownCap w n 0 5 := ⟨_, rfl⟩
    rw [← hG] at hrz hge hcm
    unfold maxLen at hcm
    have own := Lib.hid (World.ownsRow_made (base := w.heap.size) (e := 5) (size := 1) w.drew (Builtin.zeroCells (Value.int .u8 0).cells n ++ Builtin.zeroCells (Value.int .u8 0).cells (G - n)) G (Nat.le_refl _) (by unfold maxLen; omega)
      (by have e1 : (Value.int .u8 0).cells.size = 1 := rfl
          simp [size_zeroCells, e1]; omega))
    have hb := ((Below.refl w.heap.size w).drew).alloc (Nat.le_refl _) (.cells (Builtin.zeroCells (Value.int .u8 0).cells n ++ Builtin.zeroCells (Value.int .u8 0).cells (G - n)) 5)
    have hn0 : 0 < n := by omega
    clear hold hG h0
    go_enter Tryd.func57, Tryd.ntmps57
    go_wp2_with (at_builtin; refine Lib.wpList_append_run _ rfl _ _ _ _ rfl _ _ rfl rfl _ _ (hrz _) ?_)
    go_ret
    exact ⟨⟨_, _, rfl, own.out⟩, hb⟩
set_option maxRecDepth 100000 in
set_option maxHeartbeats 1000000 in
theorem growInt_any (n : Nat) (w : World) (hn : n < 10000000000) :
    Calls Tryd.prog 58 #[.slice none 0 0, .int .i64 n] w fun e w' => (∃ A c, e = .returned (.slice A 0 c) ∧ w'.ownsRow w.heap.size 2 1 (.slice A 0 c) 0 []) ∧ Below w.heap.size w w' := by
  obtain ⟨i0, hi, hz0, hz1, hz2⟩ := info_parts info_int64
  by_cases h0 : n = 0
  · subst h0
    go_enter Tryd.func58, Tryd.ntmps58
    go_wp2
    go_ret
    exact ⟨⟨_, _, rfl, World.ownsRow_nil _ _ _ _⟩, Below.refl _ _⟩
  · have hold : (Builtin.firstCells i0.size 0 (.slice none 0 0)).run Tryd.prog w.drew = .ok (([] : List Value).toArray) w.drew := run_firstCells_none w.drew i0.size 0 0 0
    have hrz : ∀ ty, (Builtin.append_ #[24, 3] ty #[.slice none 0 0, .int .i64 (n : Int)]).run Tryd.prog w = .ok (.slice (some ⟨w.heap.size, 0, none⟩) n (grownCap w n 0 2))
        (w.drew.alloc (.cells (Builtin.zeroCells (Value.int .i64 0).cells n ++ Builtin.zeroCells (Value.int .i64 0).cells (grownCap w n 0 2 - n)) 2)) := fun ty => by
      have h := Lib.run_append_grow_zeros w 24 3 ty 2 i0 (.int .i64 0) .i64 .i64 Tryd.underlying24 Tryd.underlying3 hi hz0 none 0 0 [] hold n (by omega) (by omega) (by omega) (by omega) (by rw [hz2]; omega)
        (growslice_fits (by omega) (by rw [hz2]; omega))
      simpa using h
    have hge := grownCap_ge w n 0 2
    have hcm := grownCap_le_maxLen w n 0 2 (by unfold maxLen; omega)
    obtain ⟨G, hG⟩ : ∃ G, G = grownCap w n 0 2 := ⟨_, rfl⟩
    rw [← hG] at hrz hge hcm
    unfold maxLen at hcm
    have own := Lib.hid (World.ownsRow_made (base := w.heap.size) (e := 2) (size := 1) w.drew (Builtin.zeroCells (Value.int .i64 0).cells n ++ Builtin.zeroCells (Value.int .i64 0).cells (G - n)) G (Nat.le_refl _) (by unfold maxLen; omega)
      (by have e1 : (Value.int .i64 0).cells.size = 1 := rfl
          simp [size_zeroCells, e1]; omega))
    have hb := ((Below.refl w.heap.size w).drew).alloc (Nat.le_refl _) (.cells (Builtin.zeroCells (Value.int .i64 0).cells n ++ Builtin.zeroCells (Value.int .i64 0).cells (G - n)) 2)
    have hn0 : 0 < n := by omega
    clear hold hG h0
    go_enter Tryd.func58, Tryd.ntmps58
    go_wp2_with (at_builtin; refine Lib.wpList_append_run _ rfl _ _ _ _ rfl _ _ rfl rfl _ _ (hrz _) ?_)
    go_ret
    exact ⟨⟨_, _, rfl, own.out⟩, hb⟩

set_option maxRecDepth 100000 in
set_option maxHeartbeats 1000000 in
theorem concatByte_own (g : Nat) (T : TypeId) (v0 v1 : Value) (zs0 zs1 : List Int) (w : World) (B0 B1 : Nat) (hk : Blk w g T #[v0, v1]) (h0 : Sees w B0 .u8 v0 zs0) (h1 : Sees w B1 .u8 v1 zs1) (hB0 : B0 ≤ w.heap.size) (hB1 : B1 ≤ w.heap.size)
    (l0 : zs0.length < 1000000000) (l1 : zs1.length < 1000000000) :
    Calls Tryd.prog 38 #[.slice (some ⟨g, 0, none⟩) 2 2] w fun e w' => (∃ v, e = .returned v ∧ Own w' w.heap.size w'.heap.size 5 .u8 v (zs0 ++ zs1)) ∧ Below w.heap.size w w' := by
  obtain ⟨i0, hi, hz0, hz1, hz2⟩ := info_parts info_uint8
  obtain ⟨A0, c0, rfl, r0⟩ := h0
  obtain ⟨A1, c1, rfl, r1⟩ := h1
  have R0 := Lib.hid r0
  have R1 := Lib.hid r1
  have K := Lib.hid hk
  have hg := hk.lt
  have e0 := hk.cell 0 (u := .slice A0 zs0.length c0) rfl
  have e1 := hk.cell 1 (u := .slice A1 zs1.length c1) rfl
  clear r0 r1 hk
  go_enter Tryd.func38, Tryd.ntmps38
  go_wp2
  go_loop [3, 11] (fun sz i => (i = .int .i64 0 ∧ sz = .int .i64 0) ∨ (i = .int .i64 1 ∧ sz = .int .i64 zs0.length) ∨ (i = .int .i64 2 ∧ sz = .int .i64 ((zs0.length : Int) + (zs1.length : Int)))) (fun _ i => 2 - (intOf i).toNat)
  case atStart => exact .inl ⟨rfl, rfl⟩
  case round =>
    rcases hrel with ⟨rfl, rfl⟩ | ⟨rfl, rfl⟩ | ⟨rfl, rfl⟩
    · go_wp2
      go_round
      case rel => exact .inr (.inl ⟨rfl, by simp⟩)
      case measure => simp [intOf]
    · go_wp2
      go_round
      case rel => exact .inr (.inr ⟨rfl, rfl⟩)
      case measure => simp [intOf]
    · clear e0 e1
      go_wp2_with fail
      rw [show ((zs0.length : Int) + (zs1.length : Int)) = ((zs0.length + zs1.length : Nat) : Int) by simp]
      refine (growByte_any (zs0.length + zs1.length) _ (by omega)).mono ?_
      rintro e w1 ⟨⟨A, c, rfl, o1⟩, b1⟩
      have O1 : Hid (w1.ownsRow w.heap.size 5 1 (.slice A 0 c) ([] : List Int).length (nums .u8 [])) := Lib.hid o1
      clear o1
      go_wp2
      go_loopw [6, 27] (fun v i wr => ∃ ys : List Int, Hid (wr.ownsRow w.heap.size 5 1 v ys.length (nums .u8 ys)) ∧ ((i = .int .i64 0 ∧ Hid (ys = [])) ∨ (i = .int .i64 1 ∧ Hid (ys = zs0)) ∨ (i = .int .i64 2 ∧ Hid (ys = zs0 ++ zs1))) ∧ Below w.heap.size w wr) (fun _ i _ => 2 - (intOf i).toNat)
      case atStart => exact ⟨[], O1, .inl ⟨rfl, rfl⟩, b1⟩
      case round =>
        obtain ⟨ys, ho, hc, hbr⟩ := hrel
        have sz := hbr.size
        have e0 := (K.out.below hbr hg).cell 0 (u := .slice A0 zs0.length c0) rfl
        have e1 := (K.out.below hbr hg).cell 1 (u := .slice A1 zs1.length c1) rfl
        rcases hc with ⟨rfl, hy⟩ | ⟨rfl, hy⟩ | ⟨rfl, hy⟩
        · obtain rfl := hy.out
          go_wp2_with (at_builtin; refine wpList_app rfl _ _ _ rfl w.heap.size Tryd.underlying22 hi hz0 hz1 hz2 rfl (by omega) rfl ho.out rfl (R0.out.below hbr hB0) (by rw [nums_length, Nat.mul_one]) (nums_one _ _) (by simp; omega) (by simp; omega) sz ?_; intro v' w3 o3 g3 a3)
          have hb3 : Below w.heap.size w w3 := hbr.grown g3 sz (fun k hk => (ho.out.lt k hk).1)
          have O3 : Hid (w3.ownsRow w.heap.size 5 1 v' zs0.length (nums .u8 zs0)) := Lib.hid (by simpa [nums] using o3)
          clear o3 g3 a3
          go_roundw
          case rel => exact ⟨zs0, O3, .inr (.inl ⟨rfl, rfl⟩), hb3⟩
          case measure => simp [intOf]
        · obtain rfl := hy.out
          go_wp2_with (at_builtin; refine wpList_app rfl _ _ _ rfl w.heap.size Tryd.underlying22 hi hz0 hz1 hz2 rfl (by omega) rfl ho.out rfl (R1.out.below hbr hB1) (by rw [nums_length, Nat.mul_one]) (nums_one _ _) (by omega) (by omega) sz ?_; intro v' w3 o3 g3 a3)
          have hb3 : Below w.heap.size w w3 := hbr.grown g3 sz (fun k hk => (ho.out.lt k hk).1)
          have O3 : Hid (w3.ownsRow w.heap.size 5 1 v' (ys ++ zs1).length (nums .u8 (ys ++ zs1))) := Lib.hid (by simpa [nums] using o3)
          clear o3 g3 a3
          go_roundw
          case rel => exact ⟨ys ++ zs1, O3, .inr (.inr ⟨rfl, rfl⟩), hb3⟩
          case measure => simp [intOf]
        · obtain rfl := hy.out
          clear e0 e1
          go_wp2
          go_ret
          exact ⟨⟨_, rfl, Own.mk_ ho.out rfl⟩, hbr⟩
set_option maxRecDepth 100000 in
set_option maxHeartbeats 1000000 in
theorem concatInt_own (g : Nat) (T : TypeId) (v0 v1 : Value) (zs0 zs1 : List Int) (w : World) (B0 B1 : Nat) (hk : Blk w g T #[v0, v1]) (h0 : Sees w B0 .i64 v0 zs0) (h1 : Sees w B1 .i64 v1 zs1) (hB0 : B0 ≤ w.heap.size) (hB1 : B1 ≤ w.heap.size)
    (l0 : zs0.length < 1000000000) (l1 : zs1.length < 1000000000) :
    Calls Tryd.prog 40 #[.slice (some ⟨g, 0, none⟩) 2 2] w fun e w' => (∃ v, e = .returned v ∧ Own w' w.heap.size w'.heap.size 2 .i64 v (zs0 ++ zs1)) ∧ Below w.heap.size w w' := by
  obtain ⟨i0, hi, hz0, hz1, hz2⟩ := info_parts info_int64
  obtain ⟨A0, c0, rfl, r0⟩ := h0
  obtain ⟨A1, c1, rfl, r1⟩ := h1
  have R0 := Lib.hid r0
  have R1 := Lib.hid r1
  have K := Lib.hid hk
  have hg := hk.lt
  have e0 := hk.cell 0 (u := .slice A0 zs0.length c0) rfl
  have e1 := hk.cell 1 (u := .slice A1 zs1.length c1) rfl
  clear r0 r1 hk
  go_enter Tryd.func40, Tryd.ntmps40
  go_wp2
  go_loop [3, 11] (fun sz i => (i = .int .i64 0 ∧ sz = .int .i64 0) ∨ (i = .int .i64 1 ∧ sz = .int .i64 zs0.length) ∨ (i = .int .i64 2 ∧ sz = .int .i64 ((zs0.length : Int) + (zs1.length : Int)))) (fun _ i => 2 - (intOf i).toNat)
  case atStart => exact .inl ⟨rfl, rfl⟩
  case round =>
    rcases hrel with ⟨rfl, rfl⟩ | ⟨rfl, rfl⟩ | ⟨rfl, rfl⟩
    · go_wp2
      go_round
      case rel => exact .inr (.inl ⟨rfl, by simp⟩)
      case measure => simp [intOf]
    · go_wp2
      go_round
      case rel => exact .inr (.inr ⟨rfl, rfl⟩)
      case measure => simp [intOf]
    · clear e0 e1
      go_wp2_with fail
      rw [show ((zs0.length : Int) + (zs1.length : Int)) = ((zs0.length + zs1.length : Nat) : Int) by simp]
      refine (growInt_any (zs0.length + zs1.length) _ (by omega)).mono ?_
      rintro e w1 ⟨⟨A, c, rfl, o1⟩, b1⟩
      have O1 : Hid (w1.ownsRow w.heap.size 2 1 (.slice A 0 c) ([] : List Int).length (nums .i64 [])) := Lib.hid o1
      clear o1
      go_wp2
      go_loopw [6, 27] (fun v i wr => ∃ ys : List Int, Hid (wr.ownsRow w.heap.size 2 1 v ys.length (nums .i64 ys)) ∧ ((i = .int .i64 0 ∧ Hid (ys = [])) ∨ (i = .int .i64 1 ∧ Hid (ys = zs0)) ∨ (i = .int .i64 2 ∧ Hid (ys = zs0 ++ zs1))) ∧ Below w.heap.size w wr) (fun _ i _ => 2 - (intOf i).toNat)
      case atStart => exact ⟨[], O1, .inl ⟨rfl, rfl⟩, b1⟩
      case round =>
        obtain ⟨ys, ho, hc, hbr⟩ := hrel
        have sz := hbr.size
        have e0 := (K.out.below hbr hg).cell 0 (u := .slice A0 zs0.length c0) rfl
        have e1 := (K.out.below hbr hg).cell 1 (u := .slice A1 zs1.length c1) rfl
        rcases hc with ⟨rfl, hy⟩ | ⟨rfl, hy⟩ | ⟨rfl, hy⟩
        · obtain rfl := hy.out
          go_wp2_with (at_builtin; refine wpList_app rfl _ _ _ rfl w.heap.size Tryd.underlying24 hi hz0 hz1 hz2 rfl (by omega) rfl ho.out rfl (R0.out.below hbr hB0) (by rw [nums_length, Nat.mul_one]) (nums_one _ _) (by simp; omega) (by simp; omega) sz ?_; intro v' w3 o3 g3 a3)
          have hb3 : Below w.heap.size w w3 := hbr.grown g3 sz (fun k hk => (ho.out.lt k hk).1)
          have O3 : Hid (w3.ownsRow w.heap.size 2 1 v' zs0.length (nums .i64 zs0)) := Lib.hid (by simpa [nums] using o3)
          clear o3 g3 a3
          go_roundw
          case rel => exact ⟨zs0, O3, .inr (.inl ⟨rfl, rfl⟩), hb3⟩
          case measure => simp [intOf]
        · obtain rfl := hy.out
          go_wp2_with (at_builtin; refine wpList_app rfl _ _ _ rfl w.heap.size Tryd.underlying24 hi hz0 hz1 hz2 rfl (by omega) rfl ho.out rfl (R1.out.below hbr hB1) (by rw [nums_length, Nat.mul_one]) (nums_one _ _) (by omega) (by omega) sz ?_; intro v' w3 o3 g3 a3)
          have hb3 : Below w.heap.size w w3 := hbr.grown g3 sz (fun k hk => (ho.out.lt k hk).1)
          have O3 : Hid (w3.ownsRow w.heap.size 2 1 v' (ys ++ zs1).length (nums .i64 (ys ++ zs1))) := Lib.hid (by simpa [nums] using o3)
          clear o3 g3 a3
          go_roundw
          case rel => exact ⟨ys ++ zs1, O3, .inr (.inr ⟨rfl, rfl⟩), hb3⟩
          case measure => simp [intOf]
        · obtain rfl := hy.out
          clear e0 e1
          go_wp2
          go_ret
          exact ⟨⟨_, rfl, Own.mk_ ho.out rfl⟩, hbr⟩

set_option maxRecDepth 100000 in
set_option maxHeartbeats 1000000 in
theorem cloneByte_own (v : Value) (zs : List Int) (w : World) (B : Nat) (h : Sees w B .u8 v zs) (hB : B ≤ w.heap.size) (l : zs.length < 1000000000) :
    Calls Tryd.prog 39 #[v] w fun e w' => (∃ v', e = .returned v' ∧ Own w' w.heap.size w'.heap.size 5 .u8 v' zs) ∧ Below w.heap.size w w' := by
  obtain ⟨i0, hi, hz0, hz1, hz2⟩ := info_parts info_uint8
  obtain ⟨A, c, rfl, hr⟩ := h
  have hnil := Lib.run_eql_slice_nil (P := Tryd.prog) w 22 5 A zs.length c 0 0 Tryd.underlying22
  have HR := Lib.hid (hr.below ((Below.refl B w).alloc hB (.cells #[] 5)) (Nat.le_refl _))
  have o0 := Lib.hid (World.ownsRow_lit (base := w.heap.size) (e := 5) (size := 1) w #[] 0 (Nat.le_refl _) (by unfold maxLen; omega) rfl)
  cases A with
  | none =>
    have hzs : zs = [] := by
      cases zs with
      | nil => rfl
      | cons z zs =>
        obtain ⟨_, _, e, _⟩ := hr 0 _ (nums_get .u8 (z :: zs) 0 (by simp))
        cases e
    subst hzs
    clear hr hnil
    rw [List.length_nil]
    have hnil := Lib.run_eql_slice_nil (P := Tryd.prog) w 22 5 none 0 c 0 0 Tryd.underlying22
    go_enter Tryd.func39, Tryd.ntmps39
    go_wp2
    go_ret
    exact ⟨⟨_, rfl, Own.nil _ _ _ _ _⟩, Below.refl _ _⟩
  | some a =>
    clear hr
    go_enter Tryd.func39, Tryd.ntmps39
    go_wp2_with (at_builtin; refine wpList_app rfl _ _ _ rfl w.heap.size Tryd.underlying22 hi hz0 hz1 hz2 rfl (by omega) rfl o0.out rfl HR.out (by rw [nums_length, Nat.mul_one]) (nums_one _ _) (by omega) (by omega) (by simp) ?_; intro v' w2 o2 g2 a2)
    go_ret
    refine ⟨⟨v', rfl, Own.mk_ (n := 0 + zs.length) (by simpa using o2) (by omega)⟩, ((Below.refl w.heap.size w).alloc (Nat.le_refl _) _).grown g2 (by simp) (fun k hk => (o0.out.lt k hk).1)⟩
end Go.Proofs.YtmkpbfghnkmcgaaDoor
