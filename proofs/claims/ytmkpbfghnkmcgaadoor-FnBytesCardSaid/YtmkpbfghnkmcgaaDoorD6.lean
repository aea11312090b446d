/- The draws of chapter 1: texts to compare; the laws' own helpers. -/
import Derived.Test.YtmkpbfghnkmcgaaDoorD5
namespace Go.Proofs.YtmkpbfghnkmcgaaDoor
open Go.RowKit

set_option maxRecDepth 100000 in
set_option maxHeartbeats 400000 in
theorem l1Ints_own (v : Value) (bs : List Int) (w : World) (B : Nat) (h : Sees w B .i64 v bs) (hB : B ≤ w.heap.size) (hl : bs.length < 1000000000) :
    Calls Tryd.prog 41 #[v] w fun e w' => (∃ v', e = .returned v' ∧ Own w' w.heap.size w'.heap.size 2 .i64 v' bs) ∧ Below w.heap.size w w' := by
  obtain ⟨i0, hi, hz0, hz1, hz2⟩ := info_parts info_int64
  obtain ⟨A, c, rfl, hr⟩ := h
  have HR := Lib.hid (hr.below ((Below.refl B w).alloc hB (.cells #[] 2)) (Nat.le_refl _))
  have o0 := Lib.hid (World.ownsRow_lit (base := w.heap.size) (e := 2) (size := 1) w #[] 0 (Nat.le_refl _) (by unfold maxLen; omega) rfl)
  clear hr
  go_enter Tryd.func41, Tryd.ntmps41
  go_wp2_with (at_builtin; refine wpList_app rfl _ _ _ rfl w.heap.size Tryd.underlying24 hi hz0 hz1 hz2 rfl (by omega) rfl o0.out rfl HR.out (by rw [nums_length, Nat.mul_one]) (nums_one _ _) (by omega) (by omega) (by simp) ?_; intro v' w2 o2 g2 a2)
  go_ret
  refine ⟨⟨v', rfl, Own.mk_ (n := 0 + bs.length) (by simpa using o2) (by omega)⟩, ((Below.refl w.heap.size w).alloc (Nat.le_refl _) _).grown g2 (by simp) (fun k hk => (o0.out.lt k hk).1)⟩

set_option maxRecDepth 100000 in
set_option maxHeartbeats 1000000 in
theorem drawSameTexts_any (A : Option Addr) (c : Nat) (zs : List Int) (w : World) (hr : Rd w w.heap.size A (nums .u8 zs)) (hb : ∀ b ∈ zs, isByte b) (hl : zs.length < 2000000) :
    Calls Tryd.prog 14 #[.slice A zs.length c] w fun e w' => (∃ v1 v2, e = .returned (.tuple #[v1, v2]) ∧ ∃ xs ys, Own w' w.heap.size w'.heap.size 2 .i64 v1 xs ∧ Own w' w.heap.size w'.heap.size 2 .i64 v2 ys ∧ xs.length ≤ 9 ∧ ys.length ≤ 9) ∧ Below w.heap.size w w' := by
  have HB := Lib.hid hb
  clear hb
  go_enter Tryd.func14, Tryd.ntmps14
  go_wp2_with fail
  refine (l1Source_any A c zs w hr).mono ?_
  rintro e w1 ⟨rfl, hs1, b1⟩
  have S1 := Lib.hid hs1
  have gl := hs1.lt
  clear hr hs1
  have z0 := nxt_range zs 0 9 (by omega)
  obtain ⟨n, hn⟩ : ∃ n : Nat, Hid (nxt zs 0 9 = n) := ⟨(nxt zs 0 9).toNat, Lib.hid (by omega)⟩
  rw [hn.out] at z0
  go_wp2_with fail
  refine (next_src w.heap.size zs 0 9 w1 S1.out HB.out hl (by omega) (by omega)).mono ?_
  rintro e w2 ⟨rfl, hs2, o2⟩
  rw [hn.out]
  have S2 := Lib.hid hs2
  have a2 := o2
  have z2 := o2.size
  clear hs2 o2
  go_wp2_with fail
  refine (l1DrawText_any w.heap.size zs _ n w2 S2.out HB.out hl (by omega)).mono ?_
  rintro e w3 ⟨⟨v, rfl, ts, ot, lt, ht⟩, hs3, o3⟩
  have S3 := Lib.hid hs3
  have OT := Lib.hid ot
  have a3 := a2.trans o3
  have z3 := o3.size
  clear hs3 o3 ot
  obtain ⟨A3, c3, rfl⟩ := OT.out.form
  have lt2 : ts.length ≤ 9 := by omega
  clear lt ht
  go_wp2_with fail
  refine (l1Ints_own _ ts w3 w3.heap.size OT.out.sees (Nat.le_refl _) (by omega)).mono ?_
  rintro e w4 ⟨⟨v, rfl, ob⟩, b4⟩
  have S4 := Lib.hid (S3.out.below b4)
  have OT4 := Lib.hid (OT.out.below b4 (Nat.le_refl _))
  have OB4 := Lib.hid ob
  have a4 := a3.trans (Out.of_below (lo := w.heap.size) (hi := w.heap.size + 1) b4)
  have z4 := b4.size
  clear ob b4
  obtain ⟨A4, c4, rfl⟩ := OB4.out.form
  by_cases h0 : 0 < ts.length
  · go_wp2_with fail
    refine (l1Chance_any w.heap.size zs _ 2 w4 S4.out HB.out hl (by omega) (by omega)).mono ?_
    rintro e w5 ⟨rfl, hs5, o5⟩
    have S5 := Lib.hid hs5
    have OT5 := Lib.hid (OT4.out.out o5 (.inr (by omega)))
    have OB5 := Lib.hid (OB4.out.out o5 (.inr (by omega)))
    have a5 := a4.trans o5
    have z5 := o5.size
    clear o5 hs5
    cases hS : (nxt zs (0 + 1 + n) 2 == 0)
    · go_wp2
      go_ret2
      exact ⟨⟨_, _, rfl, ts, ts, OT5.out.more (by omega) (by omega), OB5.out.more (by omega) (by omega), lt2, lt2⟩, out_new b1 a5⟩
    · have xr := nxt_range zs (0 + 1 + n + 1) ts.length (by omega)
      obtain ⟨r, hr⟩ : ∃ r : Nat, Hid (nxt zs (0 + 1 + n + 1) ts.length = r) := ⟨(nxt zs (0 + 1 + n + 1) ts.length).toNat, Lib.hid (by omega)⟩
      rw [hr.out] at xr
      go_wp2_with fail
      refine (next_src w.heap.size zs _ ts.length w5 S5.out HB.out hl (by omega) (by omega)).mono ?_
      rintro e w6 ⟨rfl, hs6, o6⟩
      rw [hr.out]
      have OT6 := Lib.hid (OT5.out.out o6 (.inr (by omega)))
      have OB6 := Lib.hid (OB5.out.out o6 (.inr (by omega)))
      have a6 := a5.trans o6
      have z6 := o6.size
      clear o6 hs6
      have rl : (r : Int) < ts.length := xr.2
      obtain ⟨A6, rfl⟩ : ∃ g6, A4 = some ⟨g6, 0, none⟩ := by
        rcases OB6.out.1.2 with ⟨hv, hn⟩ | ⟨g, cap, cur, hv, _⟩
        · omega
        · injection hv with hv; exact ⟨g, hv⟩
      have hd := OB6.out.1.cellAt r (by omega)
      have hf := OB6.out.1.frozenAt r
      rw [nums_get .i64 ts r (by omega)] at hd
      go_wp2
      obtain ⟨V, hV⟩ : ∃ V, Hid (V = wrap64 (nth ts r + 1)) := ⟨_, Lib.hid rfl⟩
      have st := OB6.out.1.stored r (.int .i64 V)
      have oo := row_out OB6.out.1 st.2
      have gA := OB6.out.lt A6 rfl
      have ez := st.2.size
      have ny : Own (w6.setCell ⟨A6, r, none⟩ (.int .i64 V)) w.heap.size (w6.setCell ⟨A6, r, none⟩ (.int .i64 V)).heap.size 2 .i64 (.slice (some ⟨A6, 0, none⟩) ts.length c4) (ts.set r V) :=
        Own.mk_ (n := ts.length) (own_more (by simpa [nums, List.map_set] using st.1) (by omega)) (by simp)
      have nx := OT6.out.set ⟨A6, r, none⟩ (.int .i64 V) (.inr gA.1)
      have bo := out_new b1 (a6.later oo (by omega))
      rw [hV.out] at ny nx bo
      clear hd hf st oo ez
      go_ret2
      exact ⟨⟨_, _, rfl, ts, _, nx.more (by omega) (by simp; omega), ny, lt2, by simp; omega⟩, bo⟩
  · go_wp2
    go_ret2
    exact ⟨⟨_, _, rfl, ts, ts, OT4.out.more (by omega) (by omega), OB4.out.more (by omega) (by omega), lt2, lt2⟩, out_new b1 a4⟩

set_option maxRecDepth 100000 in
set_option maxHeartbeats 400000 in
theorem lwBig_any (A : Option Addr) (n c : Nat) (w : World) :
    Calls Tryd.prog 4 #[.slice A n c] w fun e w' => e = .returned (.bool (decide (1048576 < n))) ∧ w = w' := by
  go_enter Tryd.func4, Tryd.ntmps4
  go_wp2
  go_ret
  exact ⟨rbool (by simp; omega), rfl⟩

set_option maxRecDepth 100000 in
set_option maxHeartbeats 400000 in
theorem lwAt_any (A : Option Addr) (c : Nat) (zs : List Int) (n : Int) (w : World) (hr : Rd w w.heap.size A (nums .u8 zs)) (hb : ∀ b ∈ zs, isByte b) (hl : zs.length < 2000000) (hn : 1 ≤ n ∧ n ≤ 100000) :
    Calls Tryd.prog 26 #[.slice A zs.length c, .int .i64 2, .int .i64 n] w fun e w' => (∃ x, e = .returned (.int .i64 x) ∧ 0 ≤ x ∧ x < n) ∧ Below w.heap.size w w' := by
  have HR := Lib.hid hr
  have HB := Lib.hid hb
  clear hr hb
  by_cases n1 : n ≤ 1
  · go_enter Tryd.func26, Tryd.ntmps26
    go_wp2
    go_ret
    exact ⟨⟨0, rfl, by omega, by omega⟩, Below.refl _ _⟩
  · by_cases hz : zs.length = 0
    · have e0 : ((zs.length : Int) == 0) = true := by simp [hz]
      clear hz
      have z := Int.emod_nonneg 14 (show n ≠ 0 by omega)
      have z' := Int.emod_lt_of_pos 14 (show 0 < n by omega)
      go_enter Tryd.func26, Tryd.ntmps26
      go_wp2
      go_ret
      exact ⟨⟨_, rfl, z, z'⟩, Below.refl _ _⟩
    · have e0 : ((zs.length : Int) == 0) = false := beq_eq_false_iff_ne.2 (by omega)
      obtain ⟨b, off, rfl, hbg, hcell⟩ := HR.out.int (by omega)
      have m0 := Int.emod_nonneg 2 (show (zs.length : Int) ≠ 0 by omega)
      have m1 := Int.emod_lt_of_pos 2 (show 0 < (zs.length : Int) by omega)
      obtain ⟨r, hr⟩ : ∃ r : Nat, Hid ((2 : Int) % (zs.length : Int) = r) := ⟨((2 : Int) % (zs.length : Int)).toNat, Lib.hid (by omega)⟩
      rw [hr.out] at m0 m1
      have m2 := Int.emod_nonneg 3 (show (zs.length : Int) ≠ 0 by omega)
      have m3 := Int.emod_lt_of_pos 3 (show 0 < (zs.length : Int) by omega)
      obtain ⟨r2, hr2⟩ : ∃ r : Nat, Hid ((3 : Int) % (zs.length : Int) = r) := ⟨((3 : Int) % (zs.length : Int)).toNat, Lib.hid (by omega)⟩
      rw [hr2.out] at m2 m3
      have d0 := Int.ediv_nonneg (show (0 : Int) ≤ 2 by omega) (show 0 ≤ (zs.length : Int) by omega)
      have d1 : (2 : Int) / (zs.length : Int) ≤ 2 := Int.ediv_le_self _ (by omega)
      obtain ⟨d, hd⟩ : ∃ d : Int, Hid ((2 : Int) / (zs.length : Int) = d) := ⟨_, Lib.hid rfl⟩
      rw [hd.out] at d0 d1
      have rl : r < zs.length := by omega
      have rl2 : r2 < zs.length := by omega
      have rb := HB.out _ (nth_in zs r rl)
      have rb2 := HB.out _ (nth_in zs r2 rl2)
      unfold isByte at rb rb2
      have q1 : (2 : Int).tmod (zs.length : Int) = (r : Int) := by rw [Int.tmod_eq_emod_of_nonneg (by omega)]; exact hr.out
      have q2 : (2 : Int).tdiv (zs.length : Int) = d := by rw [Int.tdiv_eq_ediv_of_nonneg (by omega)]; exact hd.out
      have q3 : (3 : Int).tmod (zs.length : Int) = (r2 : Int) := by rw [Int.tmod_eq_emod_of_nonneg (by omega)]; exact hr2.out
      have w1 : IntKind.i64.wrap (r : Int) = (r : Int) := IntWalk.i64_in _ (by omega)
      have w2 : IntKind.i64.wrap d = d := IntWalk.i64_in _ (by omega)
      have w3 : IntKind.i64.wrap (d * 3) = d * 3 := IntWalk.i64_in _ (by omega)
      have w4 : IntKind.i64.wrap (nth zs r) = nth zs r := IntWalk.i64_in _ (by omega)
      have w5 : IntKind.i64.wrap (nth zs r + d * 3) = nth zs r + d * 3 := IntWalk.i64_in _ (by omega)
      have w6 : IntKind.i64.wrap (r2 : Int) = (r2 : Int) := IntWalk.i64_in _ (by omega)
      have w7 : IntKind.i64.wrap (nth zs r2) = nth zs r2 := IntWalk.i64_in _ (by omega)
      have w8 : IntKind.i64.wrap ((nth zs r + d * 3) * 251) = (nth zs r + d * 3) * 251 := IntWalk.i64_in _ (by omega)
      have w9 : IntKind.i64.wrap ((nth zs r + d * 3) * 251 + nth zs r2) = (nth zs r + d * 3) * 251 + nth zs r2 := IntWalk.i64_in _ (by omega)
      have hx := hcell r rl
      have hx2 := hcell r2 rl2
      have E1 := Lib.hid (Int.emod_nonneg (nth zs r + d * 3) (show n ≠ 0 by omega))
      have E2 := Lib.hid (Int.emod_lt_of_pos (nth zs r + d * 3) (show 0 < n by omega))
      have E3 := Lib.hid (Int.emod_nonneg ((nth zs r + d * 3) * 251 + nth zs r2) (show n ≠ 0 by omega))
      have E4 := Lib.hid (Int.emod_lt_of_pos ((nth zs r + d * 3) * 251 + nth zs r2) (show 0 < n by omega))
      clear hcell m0 m1 m2 m3 hz
      by_cases n2 : 200 < n
      · go_enter Tryd.func26, Tryd.ntmps26
        go_wp2
        go_quiet (fail)
        go_wp2
        go_ret
        exact ⟨⟨_, rfl, E3.out, E4.out⟩, below_drewN (Below.refl _ _) _⟩
      · go_enter Tryd.func26, Tryd.ntmps26
        go_wp2
        go_quiet (fail)
        go_wp2
        go_ret
        exact ⟨⟨_, rfl, E1.out, E2.out⟩, below_drewN (Below.refl _ _) _⟩
end Go.Proofs.YtmkpbfghnkmcgaaDoor
