/- The program's TextFault. -/
import Derived.Test.YtcfnhjpmihngdaaGreatY03
namespace Go.Proofs.YtcfnhjpmihngdaaGreat
open Go.RowKit

theorem nums_app (kd : IntKind) (a b : List Int) : nums kd (a ++ b) = nums kd a ++ nums kd b := by simp [nums]

set_option maxRecDepth 100000 in
set_option maxHeartbeats 1000000 in
theorem appendNon_any (B : Nat) (v : Value) (n : Nat) (xs : List Value) (r : Int) (h0 : 128 ≤ r) (hc : Chr r) (w : World) (hown : w.ownsRow B 5 1 v n xs) (hl : n < 100000000) (hB : B ≤ w.heap.size) :
    Calls Tryz.prog 119 #[v, .int .i32 r] w fun e w' => ∃ v', e = .returned v' ∧ w'.ownsRow B 5 1 v' (n + (enc1 r).length) (xs ++ nums .u8 (enc1 r)) ∧ w.grownBy w' v.ownBlock := by
  obtain ⟨i0, hi, hz0, hz1, hz2⟩ := info_parts info_uint8
  have hlo := hc.lo
  have hhi := hc.hi
  by_cases c2 : r < 2048
  · have e : Hid (enc1 r = [192 + r / 64, 128 + r % 64]) := Lib.hid (by unfold enc1; rw [if_neg (by omega), if_pos c2])
    have HO := Lib.hid hown
    clear hown hc
    go_enter Tryz.func119, Tryz.ntmps119
    go_wp2_with (at_builtin; refine wpList_app rfl _ _ _ rfl B Tryz.underlying118 hi hz0 hz1 hz2 rfl (by omega) rfl (HO.out.alloc _) rfl (Rd.lit w #[.int .u8 (192 + r / 64), .int .u8 (128 + r % 64)] _) (m := 2) rfl (nums_one .u8 [192 + r / 64, 128 + r % 64]) (by omega) (by omega) (by simp; omega) ?_; intro v' w2 o2 g2 a2)
    go_ret
    exact ⟨v', rfl, by rw [e.out]; exact o2, (World.grownBy_alloc w _ _).trans g2⟩
  · by_cases c3 : r < 65536
    · have e : Hid (enc1 r = [224 + r / 4096, 128 + r / 64 % 64, 128 + r % 64]) := Lib.hid (by unfold enc1; rw [if_neg (by omega), if_neg c2, if_pos c3])
      have HO := Lib.hid hown
      rcases hc with hc | hc
      · have : r ≤ 55295 := hc.2
        clear hown hc
        go_enter Tryz.func119, Tryz.ntmps119
        go_wp2_with (at_builtin; refine wpList_app rfl _ _ _ rfl B Tryz.underlying118 hi hz0 hz1 hz2 rfl (by omega) rfl (HO.out.alloc _) rfl (Rd.lit w #[.int .u8 (224 + r / 4096), .int .u8 (128 + r / 64 % 64), .int .u8 (128 + r % 64)] _) (m := 3) rfl (nums_one .u8 [224 + r / 4096, 128 + r / 64 % 64, 128 + r % 64]) (by omega) (by omega) (by simp; omega) ?_; intro v' w2 o2 g2 a2)
        go_ret
        exact ⟨v', rfl, by rw [e.out]; exact o2, (World.grownBy_alloc w _ _).trans g2⟩
      · have : 57344 ≤ r := hc.1
        clear hown hc
        go_enter Tryz.func119, Tryz.ntmps119
        go_wp2_with (at_builtin; refine wpList_app rfl _ _ _ rfl B Tryz.underlying118 hi hz0 hz1 hz2 rfl (by omega) rfl (HO.out.alloc _) rfl (Rd.lit w #[.int .u8 (224 + r / 4096), .int .u8 (128 + r / 64 % 64), .int .u8 (128 + r % 64)] _) (m := 3) rfl (nums_one .u8 [224 + r / 4096, 128 + r / 64 % 64, 128 + r % 64]) (by omega) (by omega) (by simp; omega) ?_; intro v' w2 o2 g2 a2)
        go_ret
        exact ⟨v', rfl, by rw [e.out]; exact o2, (World.grownBy_alloc w _ _).trans g2⟩
    · have e : Hid (enc1 r = [240 + r / 262144, 128 + r / 4096 % 64, 128 + r / 64 % 64, 128 + r % 64]) := Lib.hid (by unfold enc1; rw [if_neg (by omega), if_neg c2, if_neg c3])
      have HO := Lib.hid hown
      clear hown hc
      go_enter Tryz.func119, Tryz.ntmps119
      go_wp2_with (at_builtin; refine wpList_app rfl _ _ _ rfl B Tryz.underlying118 hi hz0 hz1 hz2 rfl (by omega) rfl (HO.out.alloc _) rfl (Rd.lit w #[.int .u8 (240 + r / 262144), .int .u8 (128 + r / 4096 % 64), .int .u8 (128 + r / 64 % 64), .int .u8 (128 + r % 64)] _) (m := 4) rfl (nums_one .u8 [240 + r / 262144, 128 + r / 4096 % 64, 128 + r / 64 % 64, 128 + r % 64]) (by omega) (by omega) (by simp; omega) ?_; intro v' w2 o2 g2 a2)
      go_ret
      exact ⟨v', rfl, by rw [e.out]; exact o2, (World.grownBy_alloc w _ _).trans g2⟩

set_option maxRecDepth 100000 in
set_option maxHeartbeats 1000000 in
theorem appendRune_any (B : Nat) (v : Value) (n : Nat) (xs : List Value) (r : Int) (hc : Chr r) (w : World) (hown : w.ownsRow B 5 1 v n xs) (hl : n < 100000000) (hB : B ≤ w.heap.size) :
    Calls Tryz.prog 106 #[v, .int .i32 r] w fun e w' => ∃ v', e = .returned v' ∧ w'.ownsRow B 5 1 v' (n + (enc1 r).length) (xs ++ nums .u8 (enc1 r)) ∧ w.grownBy w' v.ownBlock := by
  obtain ⟨i0, hi, hz0, hz1, hz2⟩ := info_parts info_uint8
  have hlo := hc.lo
  have hhi := hc.hi
  by_cases c1 : r < 128
  · have e : Hid (enc1 r = [r]) := Lib.hid (by unfold enc1; rw [if_pos c1])
    have HO := Lib.hid hown
    clear hown hc
    go_enter Tryz.func106, Tryz.ntmps106
    go_wp2_with (at_builtin; refine wpList_app rfl _ _ _ rfl B Tryz.underlying118 hi hz0 hz1 hz2 rfl (by omega) rfl (HO.out.alloc _) rfl (Rd.lit w #[.int .u8 r] _) (m := 1) rfl (nums_one .u8 [r]) (by omega) (by omega) (by simp; omega) ?_; intro v' w2 o2 g2 a2)
    go_ret
    exact ⟨v', rfl, by rw [e.out]; exact o2, (World.grownBy_alloc w _ _).trans g2⟩
  · have HO := Lib.hid hown
    have HC := Lib.hid hc
    clear hown hc
    go_enter Tryz.func106, Tryz.ntmps106
    go_wp2_with (go_at_call 119; refine (appendNon_any B v n xs r (by omega) HC.out w HO.out hl hB).mono ?_; rintro e w' ⟨v', rfl, o2, g2⟩)
    go_ret
    exact ⟨v', rfl, o2, g2⟩

theorem own_app {w' : World} {B : Nat} {t : TypeId} {v' : Value} {n : Nat} {a b : List Int} {kd : IntKind} (h : w'.ownsRow B t 1 v' (n + b.length) (nums kd a ++ nums kd b)) (hn : n = a.length) :
    w'.ownsRow B t 1 v' (a ++ b).length (nums kd (a ++ b)) := by subst hn; rw [nums_app, List.length_append]; exact h

set_option maxRecDepth 100000 in
set_option maxHeartbeats 1000000 in
theorem encodeText_any (A : Option Addr) (zs : List Int) (c : Nat) (w : World) (h1 : Rd w w.heap.size A (nums .i64 zs)) (hl : zs.length < 1000000000) :
    Calls Tryz.prog 93 #[.slice A zs.length c] w fun e w' => (∃ v, e = .returned (.agg #[.int .i64 (encode zs).1, v]) ∧ Own w' w.heap.size w'.heap.size 5 .u8 v (encode zs).2) ∧ Below w.heap.size w w' := by
  by_cases h6 : 600 < zs.length
  · have e : encode zs = (2, []) := by unfold encode; rw [if_pos h6]
    rw [e]
    clear e
    go_enter Tryz.func93, Tryz.ntmps93
    go_wp2
    exact bodyPost_ret (v := .agg #[.int .i64 2, .slice none 0 0]) (by simp [results, Tryz.results93, go_sem]) rfl ⟨⟨_, rfl, Own.nil _ _ _ _ _⟩, (Below.refl _ _).alloc (Nat.le_refl _) _⟩
  · have H1 := Lib.hid h1
    have b0 := (Below.refl w.heap.size w).alloc (Nat.le_refl _) (.cells #[.int .i64 0, .slice none 0 0] 120)
    have k0 := Blk.new w 120 #[.int .i64 0, .slice none 0 0]
    clear h1
    go_enter Tryz.func93, Tryz.ntmps93
    go_wp2
    go_loopw [3, 12] (fun v i wr => ∃ k : Nat, k ≤ zs.length ∧ i = .int .i64 k ∧ Hid (wr.ownsRow (w.heap.size + 1) 5 1 v (encs (zs.take k)).length (nums .u8 (encs (zs.take k)))) ∧ Below w.heap.size w wr ∧ Blk wr w.heap.size 120 #[.int .i64 0, .slice none 0 0] ∧ Hid ((zs.take k).all chrB = true)) (fun _ i _ => zs.length - (intOf i).toNat)
    case atStart => exact ⟨0, by omega, rfl, Lib.hid (World.ownsRow_nil _ _ _ _), b0, k0, rfl⟩
    case round =>
      obtain ⟨k, hk, rfl, ho, hbr, hkr, hs⟩ := hrel
      have hsz := hkr.lt
      by_cases hlt : k < zs.length
      · obtain ⟨b, off, rfl, hb, hc⟩ := (H1.out.below hbr (Nat.le_refl _)).int (by omega)
        have hc0 := hc k hlt
        clear hc
        obtain ⟨z, hz⟩ : ∃ z, Hid (z = nth zs k) := ⟨_, Lib.hid rfl⟩
        rw [← hz.out] at hc0
        by_cases hp : chrB z = true
        · have hp' : Hid (decide ((0 ≤ z ∧ z ≤ 55295) ∨ (57344 ≤ z ∧ z ≤ 1114111)) = true) := Lib.hid hp
          have hchr : Chr z := by simpa [chrB, Chr] using hp
          have hz0 : 0 ≤ z := hchr.lo
          have hz1 : z ≤ 1114111 := hchr.hi
          have HC := Lib.hid hchr
          have HP := Lib.hid hp
          have hl2 := encs_len (zs.take k)
          have hl3 : (zs.take k).length ≤ zs.length := List.length_take_le' _ _
          clear hp hchr
          go_wp2_with fail
          refine (isChar_any _ _).mono ?_
          rintro e w1 ⟨rfl, b1⟩
          rw [hp'.out]
          have o1 := Lib.hid (own_below ho.out b1)
          have hb1 := below_on hbr b1 (Nat.le_refl _)
          have k1 := hkr.below b1 hsz
          have hs1 := b1.size
          clear ho hbr hkr b1
          go_wp2_with fail
          refine (appendRune_any (w.heap.size + 1) _ _ _ z HC.out _ o1.out (by omega) (by omega)).mono ?_
          rintro e w2 ⟨v', rfl, o2, g2⟩
          have hb2 : Below w.heap.size w w2 := hb1.grown g2 hb1.size (fun g hg => by have := (o1.out.lt g hg).1; omega)
          have k2 : Blk w2 w.heap.size 120 #[.int .i64 0, .slice none 0 0] := (g2.block _ (by omega) (fun e => by have := (o1.out.lt _ e.symm).1; omega)).trans k1
          have O2 := Lib.hid (own_app o2 rfl)
          clear o2 g2 o1 hb1 k1
          go_wp2
          go_roundw
          case rel => exact ⟨k + 1, by omega, by go_num, by rw [encs_step zs k hlt, ← hz.out]; exact O2, hb2, k2, Lib.hid (by rw [all_step chrB zs k hlt (by rw [← hz.out]; exact HP.out)]; exact hs.out)⟩
          case measure => first | omega | (simp [intOf]; omega)
        · have hp' : Hid (decide ((0 ≤ z ∧ z ≤ 55295) ∨ (57344 ≤ z ∧ z ≤ 1114111)) = false) := Lib.hid (by simpa [chrB] using hp)
          have E : Hid (encode zs = (3, [])) := Lib.hid (by unfold encode; rw [if_neg h6, all_false chrB zs k hlt (by rw [← hz.out]; simpa using hp)]; rfl)
          clear hp
          go_wp2_with fail
          refine (isChar_any _ _).mono ?_
          rintro e w1 ⟨rfl, b1⟩
          rw [hp'.out]
          have hb1 := below_on hbr b1 (Nat.le_refl _)
          have k1 := hkr.below b1 hsz
          have hd0 := k1.cell 0 (u := .int .i64 0) rfl
          have hd1 := k1.cell 1 (u := .slice none 0 0) rfl
          have hf0 := k1.frozen 0
          have hf1 := k1.frozen 1
          clear ho hbr hkr b1
          go_wp2
          refine bodyPost_ret (v := .agg #[.int .i64 3, .slice none 0 0]) (by simp [results, Tryz.results93, go_sem, hd0, hd1]) rfl ?_
          rw [E.out]
          exact ⟨⟨_, rfl, Own.nil _ _ _ _ _⟩, (hb1.setCell (by simp) _).setCell (by simp) _⟩
      · have hall : zs.all chrB = true := by have := hs.out; rwa [List.take_of_length_le (by omega)] at this
        have E : Hid (encode zs = (0, encs zs)) := Lib.hid (by unfold encode; rw [if_neg h6, hall]; rfl)
        have e : zs.take k = zs := List.take_of_length_le (by omega)
        rw [e] at ho
        clear e hall hs
        have hd0 := hkr.cell 0 (u := .int .i64 0) rfl
        have hd1 := hkr.cell 1 (u := .slice none 0 0) rfl
        have hf0 := hkr.frozen 0
        have hf1 := hkr.frozen 1
        obtain ⟨A1, c1, rfl⟩ := own_form ho.out
        have o1 := Own.mk_ ho.out rfl
        go_wp2
        refine bodyPost_ret (v := .agg #[.int .i64 0, .slice A1 (encs zs).length c1]) (by simp [results, Tryz.results93, go_sem, hd0, hd1]) rfl ?_
        rw [E.out]
        exact ⟨⟨_, rfl, (((o1.set _ _ (.inl (by simp))).set _ _ (.inl (by simp))).more (by simp) (by simp))⟩, (hbr.setCell (by simp) _).setCell (by simp) _⟩


theorem encodeText_val (v : Value) (zs : List Int) (w : World) (B : Nat) (h : Sees w B .i64 v zs) (hB : B ≤ w.heap.size) (l : zs.length < 1000000000) (_ : ∀ n ∈ zs, (Lit.int .i64 n).wf = true) :
    Calls Tryz.prog 93 #[v] w fun e w' => (∃ u, e = .returned (.agg #[.int .i64 (encode zs).1, u]) ∧ Own w' w.heap.size w'.heap.size 5 .u8 u (encode zs).2) ∧ Below w.heap.size w w' := by
  obtain ⟨A, c, rfl, hr⟩ := h
  exact encodeText_any A zs c w (hr.more hB) l
theorem encode_len (zs : List Int) : (encode zs).2.length ≤ 2400 := by
  unfold encode
  split
  · simp
  · split
    · have := encs_len zs; show (encs zs).length ≤ 2400; omega
    · simp
end Go.Proofs.YtcfnhjpmihngdaaGreat

namespace Go.Proofs.YtcfnhjpmihngdaaGreat
open Go.RowKit Go.Maps

set_option maxRecDepth 100000 in
set_option maxHeartbeats 400000 in
theorem specTextFault_any (A : Option Addr) (zs : List Int) (c : Nat) (w : World) (B : Nat) (h1 : Rd w B A (nums .i64 zs)) (hl : zs.length < 1000000000) :
    Calls Tryz.prog 20 #[.slice A zs.length c] w fun e w' => e = .returned (.int .i64 (textF zs)) ∧ w = w' := by
  by_cases h6 : 600 < zs.length
  · have e := Lib.hid (textF_many h6)
    go_enter Tryz.func20, Tryz.ntmps20
    go_wp2
    go_ret
    exact ⟨rint e.out.symm, rfl⟩
  · have H1 := Lib.hid h1
    clear h1
    go_enter Tryz.func20, Tryz.ntmps20
    go_wp2
    go_loop [3] (fun i => ∃ k : Nat, k ≤ zs.length ∧ i = .int .i64 k ∧ Hid ((zs.take k).all chrB = true)) (fun i => zs.length - (intOf i).toNat)
    case atStart => exact ⟨0, by omega, rfl, rfl⟩
    case round =>
      obtain ⟨k, hk, rfl, hs⟩ := hrel
      by_cases hlt : k < zs.length
      · obtain ⟨b, off, rfl, hb, hc⟩ := H1.out.int (by omega)
        have hc0 := hc k hlt
        clear hc
        obtain ⟨z, hz⟩ : ∃ z, Hid (z = nth zs k) := ⟨_, Lib.hid rfl⟩
        rw [← hz.out] at hc0
        by_cases hp : chrB z = true
        · have hp' : Hid (decide ((0 ≤ z ∧ z ≤ 55295) ∨ (57344 ≤ z ∧ z ≤ 1114111)) = true) := Lib.hid hp
          have HP := Lib.hid hp
          clear hp
          go_wp2_with (go_at_call 42; refine (specIsChar_any _ _).mono ?_; rintro e w' ⟨rfl, rfl⟩; rw [hp'.out])
          go_round
          case rel => exact ⟨k + 1, by omega, by go_num, Lib.hid (by rw [all_step chrB zs k hlt (by rw [← hz.out]; exact HP.out)]; exact hs.out)⟩
          case measure => first | omega | (simp [intOf]; omega)
        · have hp' : Hid (decide ((0 ≤ z ∧ z ≤ 55295) ∨ (57344 ≤ z ∧ z ≤ 1114111)) = false) := Lib.hid (by simpa [chrB] using hp)
          have E := Lib.hid (textF_no h6 (all_false chrB zs k hlt (by rw [← hz.out]; simpa using hp)))
          clear hp
          go_wp2_with (go_at_call 42; refine (specIsChar_any _ _).mono ?_; rintro e w' ⟨rfl, rfl⟩; rw [hp'.out])
          go_ret
          exact ⟨rint E.out.symm, rfl⟩
      · have E := Lib.hid (textF_ok h6 (by have := hs.out; rwa [List.take_of_length_le (by omega)] at this))
        go_wp2
        go_ret
        exact ⟨rint E.out.symm, rfl⟩
theorem specTextFault_val (v : Value) (zs : List Int) (w : World) (B : Nat) (h : Sees w B .i64 v zs) (_ : B ≤ w.heap.size) (l : zs.length < 1000000000) (_ : ∀ n ∈ zs, (Lit.int .i64 n).wf = true) :
    Calls Tryz.prog 20 #[v] w fun e w' => e = .returned (.int .i64 (textF zs)) ∧ Below w.heap.size w w' := by
  obtain ⟨A, c, rfl, hr⟩ := h
  exact (specTextFault_any A zs c w B hr l).mono fun e w' ⟨h1, h2⟩ => ⟨h1, by subst h2; exact Below.refl _ _⟩
end Go.Proofs.YtcfnhjpmihngdaaGreat

namespace Go.Proofs.YtcfnhjpmihngdaaGreat
open Go.RowKit Go.Maps

set_option maxRecDepth 100000 in
set_option maxHeartbeats 400000 in
theorem textFault_any (A : Option Addr) (zs : List Int) (c : Nat) (w : World) (B : Nat) (h1 : Rd w B A (nums .i64 zs)) (hB : B ≤ w.heap.size) (hl : zs.length < 1000000000) :
    Calls Tryz.prog 66 #[.slice A zs.length c] w fun e w' => e = .returned (.int .i64 (textF zs)) ∧ Below w.heap.size w w' := by
  by_cases h6 : 600 < zs.length
  · have e := Lib.hid (textF_many h6)
    go_enter Tryz.func66, Tryz.ntmps66
    go_wp2
    go_ret
    exact ⟨rint e.out.symm, Below.refl _ _⟩
  · have H1 := Lib.hid h1
    clear h1
    go_enter Tryz.func66, Tryz.ntmps66
    go_wp2
    go_loopw [10] (fun i wr => ∃ k : Nat, k ≤ zs.length ∧ i = .int .i64 k ∧ Hid ((zs.take k).all chrB = true) ∧ Below w.heap.size w wr) (fun i _ => zs.length - (intOf i).toNat)
    case atStart => exact ⟨0, by omega, rfl, rfl, Below.refl _ _⟩
    case round =>
      obtain ⟨k, hk, rfl, hs, hbr⟩ := hrel
      by_cases hlt : k < zs.length
      · obtain ⟨b, off, rfl, hb, hc⟩ := (H1.out.below hbr hB).int (by omega)
        have hc0 := hc k hlt
        clear hc
        obtain ⟨z, hz⟩ : ∃ z, Hid (z = nth zs k) := ⟨_, Lib.hid rfl⟩
        rw [← hz.out] at hc0
        by_cases hp : chrB z = true
        · have hp' : Hid (decide ((0 ≤ z ∧ z ≤ 55295) ∨ (57344 ≤ z ∧ z ≤ 1114111)) = true) := Lib.hid hp
          have HP := Lib.hid hp
          clear hp
          go_wp2_with fail
          refine (isChar_any _ _).mono ?_
          rintro e w1 ⟨rfl, b1⟩
          rw [hp'.out]
          have hb1 := below_on hbr b1 (Nat.le_refl _)
          clear hbr b1
          go_wp2
          go_roundw
          case rel => exact ⟨k + 1, by omega, by go_num, Lib.hid (by rw [all_step chrB zs k hlt (by rw [← hz.out]; exact HP.out)]; exact hs.out), hb1⟩
          case measure => first | omega | (simp [intOf]; omega)
        · have hp' : Hid (decide ((0 ≤ z ∧ z ≤ 55295) ∨ (57344 ≤ z ∧ z ≤ 1114111)) = false) := Lib.hid (by simpa [chrB] using hp)
          have E := Lib.hid (textF_no h6 (all_false chrB zs k hlt (by rw [← hz.out]; simpa using hp)))
          clear hp
          go_wp2_with fail
          refine (isChar_any _ _).mono ?_
          rintro e w1 ⟨rfl, b1⟩
          rw [hp'.out]
          have hb1 := below_on hbr b1 (Nat.le_refl _)
          clear hbr b1
          go_wp2
          go_ret
          exact ⟨rint E.out.symm, hb1⟩
      · have E := Lib.hid (textF_ok h6 (by have := hs.out; rwa [List.take_of_length_le (by omega)] at this))
        go_wp2
        go_ret
        exact ⟨rint E.out.symm, hbr⟩

theorem textFault_val (v : Value) (zs : List Int) (w : World) (B : Nat) (h : Sees w B .i64 v zs) (hB : B ≤ w.heap.size) (l : zs.length < 1000000000) (_ : ∀ n ∈ zs, (Lit.int .i64 n).wf = true) :
    Calls Tryz.prog 66 #[v] w fun e w' => e = .returned (.int .i64 (textF zs)) ∧ Below w.heap.size w w' := by
  obtain ⟨A, c, rfl, hr⟩ := h
  exact textFault_any A zs c w B hr hB l
end Go.Proofs.YtcfnhjpmihngdaaGreat
