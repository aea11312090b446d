/- The draws of chapter 1: the arguments. -/
import Derived.Test.YtmkpbfghnkmcgaaDoorD3
namespace Go.Proofs.YtmkpbfghnkmcgaaDoor
open Go.RowKit


set_option maxRecDepth 100000 in
set_option maxHeartbeats 1000000 in
theorem drawIsChar_any (A : Option Addr) (c : Nat) (zs : List Int) (w : World) (hr : Rd w w.heap.size A (nums .u8 zs)) (hb : ∀ b ∈ zs, isByte b) (hl : zs.length < 2000000) :
    Calls Tryd.prog 11 #[.slice A zs.length c] w fun e w' => (∃ x, e = .returned (.int .i64 x) ∧ -1 ≤ x ∧ x ≤ 1114112) ∧ Below w.heap.size w w' := by
  go_enter Tryd.func11, Tryd.ntmps11
  go_wp2_with fail
  refine (l1Source_any A c zs w hr).mono ?_
  rintro e w1 ⟨rfl, hs1, b1⟩
  have gl := hs1.lt
  go_wp2_with fail
  refine (l1Pick_any w.heap.size w1.heap.size 9 2 [0, 65, 55295, 55296, 57343, 57344, 1114111, 1114112, -1] zs 0 _ (Blk.new w1 _ _) (by omega) rfl (by omega) (by omega) (hs1.alloc _) hb hl (by omega)).mono ?_
  rintro e w2 ⟨rfl, hs2, o2⟩
  have pr := (by decide : ∀ y ∈ ([0, 65, 55295, 55296, 57343, 57344, 1114111, 1114112, -1] : List Int), -1 ≤ y ∧ y ≤ 1114112) _ (pick_in [0, 65, 55295, 55296, 57343, 57344, 1114111, 1114112, -1] zs 0 9 rfl (by omega))
  have bo := out_new b1 (((Out.refl _ _ w1).alloc _).trans o2)
  clear o2 hs2 hs1 b1
  go_wp2
  go_ret
  exact ⟨⟨_, rfl, pr⟩, bo⟩

set_option maxRecDepth 100000 in
set_option maxHeartbeats 1000000 in
theorem drawFlushCarry_any (A : Option Addr) (c : Nat) (zs : List Int) (w : World) (hr : Rd w w.heap.size A (nums .u8 zs)) (hb : ∀ b ∈ zs, isByte b) (hl : zs.length < 2000000) :
    Calls Tryd.prog 13 #[.slice A zs.length c] w fun e w' => (∃ v, e = .returned v ∧ Sees w' w'.heap.size .u8 v (carryD zs 0)) ∧ Below w.heap.size w w' := by
  go_enter Tryd.func13, Tryd.ntmps13
  go_wp2_with fail
  refine (l1Source_any A c zs w hr).mono ?_
  rintro e w1 ⟨rfl, hs1, b1⟩
  have gl := hs1.lt
  go_wp2_with fail
  refine (l1Carry_any w.heap.size zs 0 w1 hs1 hb hl (by omega)).mono ?_
  rintro e w2 ⟨⟨v, rfl, se⟩, hs2, o2⟩
  have bo := out_new b1 o2
  have SE := Lib.hid se.sees
  clear o2 hs2 hs1 b1 se
  obtain ⟨A3, c3, rfl, _⟩ := SE.out
  go_wp2
  go_ret
  exact ⟨⟨_, rfl, SE.out⟩, bo⟩

set_option maxRecDepth 100000 in
set_option maxHeartbeats 1000000 in
theorem drawDecodeAll_any (A : Option Addr) (c : Nat) (zs : List Int) (w : World) (hr : Rd w w.heap.size A (nums .u8 zs)) (hb : ∀ b ∈ zs, isByte b) (hl : zs.length < 2000000) :
    Calls Tryd.prog 9 #[.slice A zs.length c] w fun e w' => (∃ v, e = .returned v ∧ ∃ bs, Own w' w.heap.size w'.heap.size 5 .u8 v bs ∧ bs.length ≤ 601 ∧ ∀ b ∈ bs, isByte b) ∧ Below w.heap.size w w' := by
  obtain ⟨i0, hi, hz0, hz1, hz2⟩ := info_parts info_uint8
  have HB := Lib.hid hb
  clear hb
  go_enter Tryd.func9, Tryd.ntmps9
  go_wp2_with fail
  refine (l1Source_any A c zs w hr).mono ?_
  rintro e w1 ⟨rfl, hs1, b1⟩
  have S1 := Lib.hid hs1
  have gl := hs1.lt
  clear hr hs1
  go_wp2_with fail
  refine (l1Chance_any w.heap.size zs 0 30 w1 S1.out HB.out hl (by omega) (by omega)).mono ?_
  rintro e w2 ⟨rfl, hs2, o2⟩
  have S2 := Lib.hid hs2
  have z2 := o2.size
  have a2 : Out w.heap.size (w.heap.size + 1) w1 w2 := o2
  clear hs2 o2
  cases hS : (nxt zs 0 30 == 0)
  · have z0 := nxt_range zs (0 + 1) 20 (by omega)
    obtain ⟨n, hn⟩ : ∃ n : Nat, Hid (nxt zs (0 + 1) 20 = n) := ⟨(nxt zs (0 + 1) 20).toNat, Lib.hid (by omega)⟩
    rw [hn.out] at z0
    go_wp2_with fail
    refine (next_src w.heap.size zs (0 + 1) 20 w2 S2.out HB.out hl (by omega) (by omega)).mono ?_
    rintro e w3 ⟨rfl, hs3, o3⟩
    rw [hn.out]
    have S3 := Lib.hid hs3
    have a3 := a2.trans o3
    have z3 := o3.size
    clear hs3 o3
    go_wp2_with fail
    refine (l1DrawBytes_any w.heap.size zs _ n w3 S3.out HB.out hl (by omega)).mono ?_
    rintro e w4 ⟨⟨v, rfl, bs, ob, lb, hbs⟩, _, o4⟩
    have OB := Lib.hid ob
    have bo := out_new b1 (a3.trans o4)
    clear o4 ob
    obtain ⟨A5, c5, rfl⟩ := OB.out.form
    go_wp2
    go_ret
    exact ⟨⟨_, rfl, bs, OB.out.more (by omega) (Nat.le_refl _), by omega, hbs⟩, bo⟩
  · go_wp2_with fail
    refine (l1Pick_any w.heap.size w2.heap.size 2 2 [600, 601] zs _ _ (Blk.new w2 _ _) (by omega) rfl (by omega) (by omega) (S2.out.alloc _) HB.out hl (by omega)).mono ?_
    rintro e w3 ⟨rfl, hs3, o3⟩
    have pr := (by decide : ∀ y ∈ ([600, 601] : List Int), 600 ≤ y ∧ y ≤ 601) _ (pick_in [600, 601] zs (0 + 1) 2 rfl (by omega))
    obtain ⟨p, hp⟩ : ∃ p : Nat, Hid ((p : Int) = nth [600, 601] (nxt zs (0 + 1) ((2 : Nat) : Int)).toNat) := ⟨(nth [600, 601] (nxt zs (0 + 1) ((2 : Nat) : Int)).toNat).toNat, Lib.hid (by omega)⟩
    rw [← hp.out] at pr ⊢
    have bo := out_new b1 ((a2.alloc _).trans o3)
    have b3 := bo.size
    clear o3 hs3
    go_wp2_with (at_make; refine wpList_make_full _ rfl _ _ _ rfl w.heap.size 5 i0 (.int .u8 0) 1 Tryd.underlying22 hi hz0 hz1 _ _ _ _ p rfl rfl rfl rfl (by rw [hz2]; omega) (by unfold maxLen; omega) b3 ?_; intro w4 hown1 hg1)
    rw [show (Value.int IntKind.u8 0).cells = #[.int .u8 0] from rfl, Nat.mul_one, toList_madeCells_one] at hown1
    have bw : Below w.heap.size w w4 := bo.grown hg1 b3 (by simp)
    go_ret
    exact ⟨⟨_, rfl, List.replicate p 0, Own.mk_ (n := p) (by simpa [nums] using hown1) (by simp), by simp; omega, fun b hb => by rw [(List.mem_replicate.1 hb).2]; unfold isByte; omega⟩, bw⟩

set_option maxRecDepth 100000 in
set_option maxHeartbeats 1000000 in
theorem drawDecodeChunk_any (A : Option Addr) (c : Nat) (zs : List Int) (w : World) (hr : Rd w w.heap.size A (nums .u8 zs)) (hb : ∀ b ∈ zs, isByte b) (hl : zs.length < 2000000) :
    Calls Tryd.prog 7 #[.slice A zs.length c] w fun e w' => (∃ v1 v2, e = .returned (.tuple #[v1, v2]) ∧ (Sees w' w'.heap.size .u8 v1 (carryD zs 0)) ∧ ∃ bs, Own w' w.heap.size w'.heap.size 5 .u8 v2 bs ∧ bs.length ≤ 601 ∧ ∀ b ∈ bs, isByte b) ∧ Below w.heap.size w w' := by
  obtain ⟨i0, hi, hz0, hz1, hz2⟩ := info_parts info_uint8
  have HB := Lib.hid hb
  clear hb
  go_enter Tryd.func7, Tryd.ntmps7
  go_wp2_with fail
  refine (l1Source_any A c zs w hr).mono ?_
  rintro e w1 ⟨rfl, hs1, b1⟩
  have S1 := Lib.hid hs1
  have gl := hs1.lt
  clear hr hs1
  go_wp2_with fail
  refine (l1Carry_any w.heap.size zs 0 w1 S1.out HB.out hl (by omega)).mono ?_
  rintro e w2 ⟨⟨v, rfl, se⟩, hs2, o2⟩
  have er := carryE_range zs 0
  obtain ⟨p2, hp2⟩ : ∃ p2, Hid (carryE zs 0 = p2) := ⟨_, Lib.hid rfl⟩
  rw [hp2.out] at hs2 er
  have S2 := Lib.hid hs2
  have SE := Lib.hid se
  have z2 := o2.size
  have a2 := o2
  clear hs2 o2 se
  obtain ⟨A2, c2, rfl⟩ := SE.out.form
  have z0 := nxt_range zs p2 12 (by omega)
  obtain ⟨n, hn⟩ : ∃ n : Nat, Hid (nxt zs p2 12 = n) := ⟨(nxt zs p2 12).toNat, Lib.hid (by omega)⟩
  rw [hn.out] at z0
  go_wp2_with fail
  refine (next_src w.heap.size zs p2 12 w2 S2.out HB.out hl (by omega) (by omega)).mono ?_
  rintro e w3 ⟨rfl, hs3, o3⟩
  rw [hn.out]
  have S3 := Lib.hid hs3
  have a3 := a2.trans o3
  have z3 := o3.size
  have SE3 := Lib.hid (SE.out.out o3 (.inr (by omega)))
  clear hs3 o3
  go_wp2_with fail
  refine (l1DrawBytes_any w.heap.size zs _ n w3 S3.out HB.out hl (by omega)).mono ?_
  rintro e w4 ⟨⟨v, rfl, bs, ob, lb, hbs⟩, ⟨p4, q1, q2, hs4⟩, o4⟩
  have OB := Lib.hid ob
  have S4 := Lib.hid hs4
  have a4 := a3.trans o4
  have z4 := o4.size
  have SE4 := Lib.hid (SE3.out.out o4 (.inr (by omega)))
  clear o4 ob hs4
  obtain ⟨A5, c5, rfl⟩ := OB.out.form
  go_wp2_with fail
  refine (l1Chance_any w.heap.size zs p4 3 w4 S4.out HB.out hl (by omega) (by omega)).mono ?_
  rintro e w5 ⟨rfl, hs5, o5⟩
  have S5 := Lib.hid hs5
  have a5 := a4.trans o5
  have z5 := o5.size
  have SE5 := Lib.hid (SE4.out.out o5 (.inr (by omega)))
  have OB5 := Lib.hid (OB.out.out o5 (.inr (by omega)))
  clear o5 hs5
  cases hS : (nxt zs p4 3 == 0)
  · go_wp2_with fail
    refine (l1Chance_any w.heap.size zs (p4 + 1) 30 w5 S5.out HB.out hl (by omega) (by omega)).mono ?_
    rintro e w7 ⟨rfl, hs7, o7⟩
    have S7 := Lib.hid hs7
    have a7 := a5.trans o7
    have z7 := o7.size
    have SE7 := Lib.hid (SE5.out.out o7 (.inr (by omega)))
    have DS7 := Lib.hid (OB5.out.out o7 (.inr (by omega)))
    clear o7 hs7
    cases hS2 : (nxt zs (p4 + 1) 30 == 0)
    · go_wp2
      go_ret2
      exact ⟨⟨_, _, rfl, SE7.out.sees.more (by omega), bs, DS7.out.more (by omega) (by omega), by omega, hbs⟩, out_new b1 a7⟩
    · go_wp2_with fail
      refine (l1Pick_any w.heap.size w7.heap.size 2 2 [600, 601] zs _ _ (Blk.new w7 _ _) (by omega) rfl (by omega) (by omega) (S7.out.alloc _) HB.out hl (by omega)).mono ?_
      rintro e w8 ⟨rfl, hs8, o8⟩
      have pr := (by decide : ∀ y ∈ ([600, 601] : List Int), 600 ≤ y ∧ y ≤ 601) _ (pick_in [600, 601] zs ((p4 + 1) + 1) 2 rfl (by omega))
      obtain ⟨p, hp⟩ : ∃ p : Nat, Hid ((p : Int) = nth [600, 601] (nxt zs ((p4 + 1) + 1) ((2 : Nat) : Int)).toNat) := ⟨(nth [600, 601] (nxt zs ((p4 + 1) + 1) ((2 : Nat) : Int)).toNat).toNat, Lib.hid (by omega)⟩
      rw [← hp.out] at pr ⊢
      have bo := out_new b1 ((a7.alloc _).trans o8)
      have b3 := bo.size
      have z8 := o8.size
      rw [World.size_alloc] at z8
      have SE8 := Lib.hid ((SE7.out.alloc _).out o8 (.inr (by omega)))
      clear o8 hs8
      go_wp2_with (at_make; refine wpList_make_full _ rfl _ _ _ rfl w.heap.size 5 i0 (.int .u8 0) 1 Tryd.underlying22 hi hz0 hz1 _ _ _ _ p rfl rfl rfl rfl (by rw [hz2]; omega) (by unfold maxLen; omega) b3 ?_; intro w9 hown1 hg1)
      rw [show (Value.int IntKind.u8 0).cells = #[.int .u8 0] from rfl, Nat.mul_one, toList_madeCells_one] at hown1
      have bw : Below w.heap.size w w9 := bo.grown hg1 b3 (by simp)
      have z9 := hg1.size
      go_ret2
      exact ⟨⟨_, _, rfl, ((SE8.out.grown (u := .slice none 0 0) hg1 (by simp [Value.ownBlock]; cases A2 <;> simp)).sees.more (by omega)), List.replicate p 0, Own.mk_ (n := p) (by simpa [nums] using hown1) (by simp), by simp; omega, fun b hb => by rw [(List.mem_replicate.1 hb).2]; unfold isByte; omega⟩, bw⟩
  · have n3 := nxt_range zs (p4 + 1) 3 (by omega)
    obtain ⟨m, hm⟩ : ∃ m : Nat, Hid (nxt zs (p4 + 1) 3 = m) := ⟨(nxt zs (p4 + 1) 3).toNat, Lib.hid (by omega)⟩
    rw [hm.out] at n3
    go_wp2_with fail
    refine (next_src w.heap.size zs _ 3 w5 S5.out HB.out hl (by omega) (by omega)).mono ?_
    rintro e wa ⟨rfl, hsa, oa⟩
    rw [hm.out]
    have Sa := Lib.hid hsa
    have aa := a5.trans oa
    have za := oa.size
    have SEa := Lib.hid (SE5.out.out oa (.inr (by omega)))
    have OBa := Lib.hid (OB5.out.out oa (.inr (by omega)))
    clear oa hsa
    go_wp2_with fail
    refine (l1Some_any w.heap.size zs _ m wa Sa.out HB.out hl (by omega)).mono ?_
    rintro e wb ⟨⟨vb, rfl, ob⟩, hsb, pb⟩
    have Sb := Lib.hid hsb
    have ab := aa.trans pb
    have zb := pb.size
    have SEb := Lib.hid (SEa.out.out pb (.inr (by omega)))
    have OBb := Lib.hid (OBa.out.out pb (.inr (by omega)))
    have smb := someD_byte zs (p4 + 1 + 1) m
    have sml : (someD zs (p4 + 1 + 1) m).length ≤ 3 := by rw [someD_len]; omega
    obtain ⟨ss, hss⟩ : ∃ ss, Hid (ss = someD zs (p4 + 1 + 1) m) := ⟨_, Lib.hid rfl⟩
    rw [← hss.out] at smb sml ob
    have Ob := Lib.hid ob
    clear ob hsb pb
    obtain ⟨Ab, cb, rfl⟩ := Ob.out.form
    have RB := Lib.hid (Rd.of OBb.out.1)
    go_wp2_with (at_builtin; refine wpList_app rfl _ _ _ rfl wa.heap.size Tryd.underlying22 hi hz0 hz1 hz2 rfl (by omega) rfl Ob.out.1 rfl RB.out (by rw [nums_length, Nat.mul_one]) (nums_one _ _) (by omega) (by omega) (by omega) ?_; intro v' wc oc gc _)
    have gd : wb.grownBy wc (Value.slice Ab ss.length cb).ownBlock := gc
    have ro := row_out Ob.out.1 gd
    have zc := gd.size
    have ac := ab.later ro (by omega)
    have Sc := Lib.hid (Sb.out.out ro (by omega))
    have SEc := Lib.hid (SEb.out.out ro (.inl (by omega)))
    obtain ⟨ds, hds⟩ : ∃ ds, Hid (ds = ss ++ bs) := ⟨_, Lib.hid rfl⟩
    have dl : ds.length ≤ 601 := by rw [hds.out, List.length_append]; omega
    have db : ∀ b ∈ ds, isByte b := fun b hb => by
      rw [hds.out] at hb
      rcases List.mem_append.1 hb with h | h
      · exact smb b h
      · exact hbs b h
    have DSc := Lib.hid (Own.mk_ (kd := .u8) (zs := ds) (by rw [hds.out]; simpa [nums] using oc) (by rw [hds.out, List.length_append]))
    clear oc gc gd
    obtain ⟨Ac, cc, rfl⟩ := DSc.out.form
    go_wp2_with fail
    refine (l1Chance_any w.heap.size zs (p4 + 1 + 1 + m) 30 wc Sc.out HB.out hl (by omega) (by omega)).mono ?_
    rintro e w7 ⟨rfl, hs7, o7⟩
    have S7 := Lib.hid hs7
    have a7 := ac.trans o7
    have z7 := o7.size
    have SE7 := Lib.hid (SEc.out.out o7 (.inr (by omega)))
    have DS7 := Lib.hid (DSc.out.out o7 (.inr (by omega)))
    clear o7 hs7
    cases hS2 : (nxt zs (p4 + 1 + 1 + m) 30 == 0)
    · go_wp2
      go_ret2
      exact ⟨⟨_, _, rfl, SE7.out.sees.more (by omega), ds, DS7.out.more (by omega) (by omega), dl, db⟩, out_new b1 a7⟩
    · go_wp2_with fail
      refine (l1Pick_any w.heap.size w7.heap.size 2 2 [600, 601] zs _ _ (Blk.new w7 _ _) (by omega) rfl (by omega) (by omega) (S7.out.alloc _) HB.out hl (by omega)).mono ?_
      rintro e w8 ⟨rfl, hs8, o8⟩
      have pr := (by decide : ∀ y ∈ ([600, 601] : List Int), 600 ≤ y ∧ y ≤ 601) _ (pick_in [600, 601] zs ((p4 + 1 + 1 + m) + 1) 2 rfl (by omega))
      obtain ⟨p, hp⟩ : ∃ p : Nat, Hid ((p : Int) = nth [600, 601] (nxt zs ((p4 + 1 + 1 + m) + 1) ((2 : Nat) : Int)).toNat) := ⟨(nth [600, 601] (nxt zs ((p4 + 1 + 1 + m) + 1) ((2 : Nat) : Int)).toNat).toNat, Lib.hid (by omega)⟩
      rw [← hp.out] at pr ⊢
      have bo := out_new b1 ((a7.alloc _).trans o8)
      have b3 := bo.size
      have z8 := o8.size
      rw [World.size_alloc] at z8
      have SE8 := Lib.hid ((SE7.out.alloc _).out o8 (.inr (by omega)))
      clear o8 hs8
      go_wp2_with (at_make; refine wpList_make_full _ rfl _ _ _ rfl w.heap.size 5 i0 (.int .u8 0) 1 Tryd.underlying22 hi hz0 hz1 _ _ _ _ p rfl rfl rfl rfl (by rw [hz2]; omega) (by unfold maxLen; omega) b3 ?_; intro w9 hown1 hg1)
      rw [show (Value.int IntKind.u8 0).cells = #[.int .u8 0] from rfl, Nat.mul_one, toList_madeCells_one] at hown1
      have bw : Below w.heap.size w w9 := bo.grown hg1 b3 (by simp)
      have z9 := hg1.size
      go_ret2
      exact ⟨⟨_, _, rfl, ((SE8.out.grown (u := .slice none 0 0) hg1 (by simp [Value.ownBlock]; cases A2 <;> simp)).sees.more (by omega)), List.replicate p 0, Own.mk_ (n := p) (by simpa [nums] using hown1) (by simp), by simp; omega, fun b hb => by rw [(List.mem_replicate.1 hb).2]; unfold isByte; omega⟩, bw⟩
end Go.Proofs.YtmkpbfghnkmcgaaDoor
