/- Bytes to characters: the model's l1Value, l1Decode, l1Copy, l1All, DecodeChunk, DecodeAll. -/
import Derived.Test.YtmkpbfghnkmcgaaDoorT3
import Derived.Test.YtmkpbfghnkmcgaaDoorH1
namespace Go.Proofs.YtmkpbfghnkmcgaaDoor
open Go.RowKit

set_option maxRecDepth 100000 in
set_option maxHeartbeats 1000000 in
theorem l1Value_any (A : Option Addr) (bs : List Int) (c : Nat) (w : World) (B : Nat) (hr : Rd w B A (nums .u8 bs)) (hf : Full bs) :
    Calls Tryd.prog 59 #[.slice A bs.length c] w fun e w' => e = .returned (.int .i64 (val bs)) ∧ ∃ n, w' = w.drewN n := by
  obtain ⟨b, off, rfl, hbB, hc⟩ := hr.int (by unfold Full at hf; omega)
  clear hr
  unfold Full ct at hf
  have hc0 := hc 0 (by omega)
  simp only [Nat.add_zero] at hc0
  rcases hf with ⟨hl, h0, h1⟩ | ⟨hl, h0, h1, h2, h3⟩ | ⟨hl, h0, h1, ⟨h2, h3⟩, h4, h5⟩ | ⟨hl, h0, h1, ⟨h2, h3⟩, ⟨h4, h5⟩, h6, h7⟩
  · have ev : Hid (val bs = nth bs 0) := Lib.hid (by unfold val; rw [if_pos hl])
    clear hc
    rw [hl]
    clear hl
    go_enter Tryd.func59, Tryd.ntmps59
    go_wp2
    go_ret
    exact ⟨rint ev.out.symm, 0, rfl⟩
  · have ev : Hid (val bs = (nth bs 0 - 192) * 64 + (nth bs 1 - 128)) := Lib.hid (by unfold val; rw [if_neg (by omega), if_pos hl])
    have hc1 := hc 1 (by omega)
    clear hc
    rw [hl]
    clear hl
    go_enter Tryd.func59, Tryd.ntmps59
    go_wp2
    have e0 : IntKind.u8.wrap (nth bs 0 - 192) = nth bs 0 - 192 := IntWalk.u8_in _ (by omega)
    have e1 : IntKind.i64.wrap (nth bs 0 - 192) = nth bs 0 - 192 := IntWalk.i64_in _ (by omega)
    have e2 : IntKind.i64.wrap ((nth bs 0 - 192) * 64) = (nth bs 0 - 192) * 64 := IntWalk.i64_in _ (by omega)
    have e3 : IntKind.u8.wrap (nth bs 1 - 128) = nth bs 1 - 128 := IntWalk.u8_in _ (by omega)
    have e4 : IntKind.i64.wrap (nth bs 1 - 128) = nth bs 1 - 128 := IntWalk.i64_in _ (by omega)
    have e5 : IntKind.i64.wrap ((nth bs 0 - 192) * 64 + (nth bs 1 - 128)) = (nth bs 0 - 192) * 64 + (nth bs 1 - 128) := IntWalk.i64_in _ (by omega)
    go_quiet (fail)
    go_wp2
    go_ret
    exact ⟨rint ev.out.symm, _, rfl⟩
  · have ev : Hid (val bs = (nth bs 0 - 224) * 4096 + (nth bs 1 - 128) * 64 + (nth bs 2 - 128)) := Lib.hid (by unfold val; rw [if_neg (by omega), if_neg (by omega), if_pos hl])
    have hc1 := hc 1 (by omega)
    have hc2 := hc 2 (by omega)
    clear hc
    rw [hl]
    clear hl
    go_enter Tryd.func59, Tryd.ntmps59
    go_wp2
    have e0 : IntKind.u8.wrap (nth bs 0 - 224) = nth bs 0 - 224 := IntWalk.u8_in _ (by omega)
    have e1 : IntKind.i64.wrap (nth bs 0 - 224) = nth bs 0 - 224 := IntWalk.i64_in _ (by omega)
    have e2 : IntKind.i64.wrap ((nth bs 0 - 224) * 4096) = (nth bs 0 - 224) * 4096 := IntWalk.i64_in _ (by omega)
    have e3 : IntKind.u8.wrap (nth bs 1 - 128) = nth bs 1 - 128 := IntWalk.u8_in _ (by omega)
    have e4 : IntKind.i64.wrap (nth bs 1 - 128) = nth bs 1 - 128 := IntWalk.i64_in _ (by omega)
    have e5 : IntKind.i64.wrap ((nth bs 1 - 128) * 64) = (nth bs 1 - 128) * 64 := IntWalk.i64_in _ (by omega)
    have e6 : IntKind.i64.wrap ((nth bs 0 - 224) * 4096 + (nth bs 1 - 128) * 64) = (nth bs 0 - 224) * 4096 + (nth bs 1 - 128) * 64 := IntWalk.i64_in _ (by omega)
    have e7 : IntKind.u8.wrap (nth bs 2 - 128) = nth bs 2 - 128 := IntWalk.u8_in _ (by omega)
    have e8 : IntKind.i64.wrap (nth bs 2 - 128) = nth bs 2 - 128 := IntWalk.i64_in _ (by omega)
    have e9 : IntKind.i64.wrap ((nth bs 0 - 224) * 4096 + (nth bs 1 - 128) * 64 + (nth bs 2 - 128)) = (nth bs 0 - 224) * 4096 + (nth bs 1 - 128) * 64 + (nth bs 2 - 128) := IntWalk.i64_in _ (by omega)
    go_quiet (fail)
    go_wp2
    go_ret
    exact ⟨rint ev.out.symm, _, rfl⟩
  · have ev : Hid (val bs = (nth bs 0 - 240) * 262144 + (nth bs 1 - 128) * 4096 + (nth bs 2 - 128) * 64 + (nth bs 3 - 128)) := Lib.hid (by unfold val; rw [if_neg (by omega), if_neg (by omega), if_neg (by omega)])
    have hc1 := hc 1 (by omega)
    have hc2 := hc 2 (by omega)
    have hc3 := hc 3 (by omega)
    clear hc
    rw [hl]
    clear hl
    go_enter Tryd.func59, Tryd.ntmps59
    go_wp2
    have e0 : IntKind.u8.wrap (nth bs 0 - 240) = nth bs 0 - 240 := IntWalk.u8_in _ (by omega)
    have e1 : IntKind.i64.wrap (nth bs 0 - 240) = nth bs 0 - 240 := IntWalk.i64_in _ (by omega)
    have e2 : IntKind.i64.wrap ((nth bs 0 - 240) * 262144) = (nth bs 0 - 240) * 262144 := IntWalk.i64_in _ (by omega)
    have e3 : IntKind.u8.wrap (nth bs 1 - 128) = nth bs 1 - 128 := IntWalk.u8_in _ (by omega)
    have e4 : IntKind.i64.wrap (nth bs 1 - 128) = nth bs 1 - 128 := IntWalk.i64_in _ (by omega)
    have e5 : IntKind.i64.wrap ((nth bs 1 - 128) * 4096) = (nth bs 1 - 128) * 4096 := IntWalk.i64_in _ (by omega)
    have e6 : IntKind.i64.wrap ((nth bs 0 - 240) * 262144 + (nth bs 1 - 128) * 4096) = (nth bs 0 - 240) * 262144 + (nth bs 1 - 128) * 4096 := IntWalk.i64_in _ (by omega)
    have e7 : IntKind.u8.wrap (nth bs 2 - 128) = nth bs 2 - 128 := IntWalk.u8_in _ (by omega)
    have e8 : IntKind.i64.wrap (nth bs 2 - 128) = nth bs 2 - 128 := IntWalk.i64_in _ (by omega)
    have e9 : IntKind.i64.wrap ((nth bs 2 - 128) * 64) = (nth bs 2 - 128) * 64 := IntWalk.i64_in _ (by omega)
    have e10 : IntKind.i64.wrap ((nth bs 0 - 240) * 262144 + (nth bs 1 - 128) * 4096 + (nth bs 2 - 128) * 64) = (nth bs 0 - 240) * 262144 + (nth bs 1 - 128) * 4096 + (nth bs 2 - 128) * 64 := IntWalk.i64_in _ (by omega)
    have e11 : IntKind.u8.wrap (nth bs 3 - 128) = nth bs 3 - 128 := IntWalk.u8_in _ (by omega)
    have e12 : IntKind.i64.wrap (nth bs 3 - 128) = nth bs 3 - 128 := IntWalk.i64_in _ (by omega)
    have e13 : IntKind.i64.wrap ((nth bs 0 - 240) * 262144 + (nth bs 1 - 128) * 4096 + (nth bs 2 - 128) * 64 + (nth bs 3 - 128)) = (nth bs 0 - 240) * 262144 + (nth bs 1 - 128) * 4096 + (nth bs 2 - 128) * 64 + (nth bs 3 - 128) := IntWalk.i64_in _ (by omega)
    go_quiet (fail)
    go_wp2
    go_ret
    exact ⟨rint ev.out.symm, _, rfl⟩

theorem Rd.drop {w : World} {B : Nat} {b off : Nat} {xs : List Value} (h : Rd w B (some ⟨b, off, none⟩) xs) (k : Nat) : Rd w B (some ⟨b, off + k, none⟩) (xs.drop k) := by
  intro j u hu
  rw [List.getElem?_drop] at hu
  obtain ⟨b', off', e, hb, hc⟩ := h _ u hu
  injection e with e
  injection e with e1 e2
  subst e1; subst e2
  exact ⟨b, off + k, rfl, hb, by rw [Nat.add_assoc]; exact hc⟩
theorem nums_drop (kd : IntKind) (zs : List Int) (k : Nat) : nums kd (zs.drop k) = (nums kd zs).drop k := by simp [nums]
theorem nums_take (kd : IntKind) (zs : List Int) (k : Nat) : nums kd (zs.take k) = (nums kd zs).take k := by simp [nums]

theorem l1Value_n (A : Option Addr) (bs : List Int) (n c : Nat) (w : World) (B : Nat) (hn : bs.length = n) (hr : Rd w B A (nums .u8 bs)) (hf : Full bs) :
    Calls Tryd.prog 59 #[.slice A n c] w fun e w' => e = .returned (.int .i64 (val bs)) ∧ ∃ n, w' = w.drewN n := by
  subst hn; exact l1Value_any A bs c w B hr hf

set_option maxRecDepth 100000 in
set_option maxHeartbeats 2000000 in
theorem l1Decode_any (A : Option Addr) (bs : List Int) (c : Nat) (w : World) (B : Nat) (hr : Rd w B A (nums .u8 bs)) (hB : B ≤ w.heap.size) (hb : ∀ b ∈ bs, isByte b) (hl : bs.length < 1000000000) (hcap : bs.length ≤ c) (hc63 : c ≤ 9223372036854775807) :
    Calls Tryd.prog 43 #[.slice A bs.length c] w fun e w' => (∃ v1 v2, e = .returned (.tuple #[v1, v2]) ∧ Own w' w.heap.size w'.heap.size 2 .i64 v1 (decode bs).1 ∧ Sees w' B .u8 v2 (decode bs).2) ∧ Below w.heap.size w w' := by
  obtain ⟨i0, hi, hz0, hz1, hz2⟩ := info_parts info_int64
  have HR := Lib.hid hr
  have HB := Lib.hid hb
  clear hr hb
  go_enter Tryd.func43, Tryd.ntmps43
  go_wp2
  go_loopw [0, 4] (fun bv v wr => ∃ (rest out : List Int) (A1 A2 : Option Addr) (c1 c2 : Nat), bv = .slice A1 rest.length c1 ∧ v = .slice A2 out.length c2 ∧ rest.length ≤ c1 ∧ c1 ≤ 9223372036854775807 ∧ rest.length + out.length ≤ bs.length ∧
      Hid (Rd w B A1 (nums .u8 rest)) ∧ Hid (wr.ownsRow w.heap.size 2 1 (.slice A2 out.length c2) out.length (nums .i64 out)) ∧ Hid (∀ b ∈ rest, isByte b) ∧ Hid (decode bs = (out ++ (decode rest).1, (decode rest).2)) ∧ Below w.heap.size w wr)
    (fun bv _ _ => match bv with | .slice _ n _ => n | _ => 0)
  case atStart =>
    exact ⟨bs, [], A, _, c, _, rfl, rfl, hcap, hc63, by simp, HR, Lib.hid (World.ownsRow_lit w #[] 0 (Nat.le_refl _) (by unfold maxLen; omega) rfl), HB, Lib.hid (by simp), (Below.refl _ _).alloc (Nat.le_refl _) _⟩
  case round =>
    obtain ⟨rest, out, A1, A2, c1, c2, rfl, rfl, hc1, hc2, hlen, hR, hO, hBy, hD, hbr⟩ := hrel
    by_cases h0 : 0 < rest.length
    · obtain ⟨b, off, rfl, hbB, hc⟩ := (hR.out.below hbr hB).int h0
      have hc0 := hc 0 h0
      simp only [Nat.add_zero] at hc0
      clear hc
      have r0 := hBy.out (nth rest 0) (by simp [nth, List.getElem?_eq_getElem h0])
      unfold isByte at r0
      have fl := front_len rest h0
      have flo := front_lo rest
      obtain ⟨S, hS⟩ : ∃ S, Hid (S = size0 (nth rest 0)) := ⟨_, Lib.hid rfl⟩
      obtain ⟨F, hF⟩ : ∃ F, Hid (F = front rest) := ⟨_, Lib.hid rfl⟩
      rw [← hF.out] at fl flo
      go_wp2_with fail
      refine (l1Front_any _ rest c1 _ B (hR.out.below hbr hB) hBy.out h0 (by omega)).mono ?_
      rintro e w1 ⟨rfl, n1, rfl⟩
      rw [← hF.out]
      by_cases g1 : F = rest.length
      · have j1 : ((F : Int) == (rest.length : Int)) = true := by simp; omega
        have G1 := Lib.hid g1
        clear g1
        by_cases g2 : (F : Int) < S
        · go_wp2_with (go_at_call 50; refine (l1Size_any _ _ (by omega) (by omega)).mono ?_; rintro e w' ⟨rfl, rfl⟩; rw [← hS.out])
          have e := hD.out
          rw [decode_carry rest h0 (by rw [← hF.out]; exact G1.out) (by rw [← hF.out, ← hS.out]; exact g2)] at e
          simp only [List.append_nil] at e
          have E := Lib.hid e
          clear e
          go_ret2
          rw [E.out]
          exact ⟨⟨_, _, rfl, ((Own.mk_ hO.out rfl).below (below_drawn (n := n1) rfl) (Nat.le_refl _)), ⟨_, _, rfl, (hR.out.below (below_drewN hbr n1) hB)⟩⟩, below_drewN hbr n1⟩
        · have g2' : S ≤ (F : Int) := by omega
          by_cases g3 : (F : Int) = S
          · have j3 : ((F : Int) == S) = true := by simp [g3]
            have G3 := Lib.hid g3
            clear g3
            have e := hD.out
            rw [decode_step rest h0 (by rw [← hF.out, ← hS.out]; intro h; exact g2 h.2)] at e
            rw [← hF.out, ← hS.out, if_pos G3.out] at e
            have E := Lib.hid e
            clear e
            have hfull := full_of rest h0 r0.1 (by rw [← hF.out, ← hS.out]; exact G3.out)
            rw [← hF.out] at hfull
            have HF := Lib.hid hfull
            clear hfull
            have TL : Hid ((rest.take F).length = F) := Lib.hid (by simp; omega)
            go_wp2_with (first
              | (go_at_call 50; refine (l1Size_any _ _ (by omega) (by omega)).mono ?_; rintro e w' ⟨rfl, rfl⟩; rw [← hS.out])
              | fail)
            refine (l1Value_n _ (rest.take F) F c1 _ B TL.out (by rw [nums_take]; exact (hR.out.below (below_drewN hbr n1) hB).take F) HF.out).mono ?_
            rintro e w2 ⟨rfl, n2, rfl⟩
            obtain ⟨V, hV⟩ : ∃ V, Hid (V = val (rest.take F)) := ⟨_, Lib.hid rfl⟩
            rw [← hV.out] at E
            rw [← hV.out]
            have hb2 := below_drewN hbr (n1 + n2)
            have o2 := Lib.hid (own_below hO.out (below_drewN (Below.refl _ wr) (n1 + n2)))
            have sz := hb2.size
            go_wp2_with (at_builtin; refine wpList_app rfl _ _ _ rfl w.heap.size Tryd.underlying24 hi hz0 hz1 hz2 rfl (by omega) rfl (o2.out.alloc _) rfl (Rd.lit _ #[.int .i64 V] _) (m := 1) rfl (nums_one .i64 [V]) (by omega) (by omega) (by simp at sz ⊢; omega) ?_; intro v' w3 o3 g3 a3)
            all_goals
              have hb3 : Below w.heap.size w w3 := (hb2.alloc sz _).grown g3 (by simp at sz ⊢; omega) (fun k hk => (o2.out.lt k hk).1)
              obtain ⟨A3, c3, rfl⟩ := own_form o3
              have O3 : Hid (w3.ownsRow w.heap.size 2 1 (.slice A3 (out ++ [V]).length c3) (out ++ [V]).length (nums .i64 (out ++ [V]))) := Lib.hid (by simpa [nums] using o3)
              clear o3 g3 a3 o2 hb2
              go_roundw
              case rel => exact ⟨rest.drop F, out ++ [V], _, A3, _, c3, by rw [List.length_drop], by simp, by simp; omega, by omega, by simp; omega, Lib.hid (by rw [List.drop_of_length_le (by have := G1.out; omega)]; exact Rd.nil _ _ _), O3, Lib.hid (fun b' h' => hBy.out b' (List.mem_of_mem_drop h')), Lib.hid (by rw [E.out]; simp), hb3⟩
              case measure => first | omega | (simp; omega)
          · have j3 : ((F : Int) == S) = false := by simp [g3]
            have G3 := Lib.hid g3
            have e := hD.out
            rw [decode_step rest h0 (by rw [← hF.out, ← hS.out]; intro h; exact g2 h.2)] at e
            rw [← hF.out, ← hS.out, if_neg G3.out] at e
            have E := Lib.hid e
            clear e g3
            have hb2 := below_drewN hbr n1
            have o2 := Lib.hid (own_below hO.out (below_drewN (Below.refl _ wr) n1))
            have sz := hb2.size
            go_wp2_with (first
              | (go_at_call 50; refine (l1Size_any _ _ (by omega) (by omega)).mono ?_; rintro e w' ⟨rfl, rfl⟩; rw [← hS.out])
              | (at_builtin; refine wpList_app rfl _ _ _ rfl w.heap.size Tryd.underlying24 hi hz0 hz1 hz2 rfl (by omega) rfl (o2.out.alloc _) rfl (Rd.lit _ #[.int .i64 65533] _) (m := 1) rfl (nums_one .i64 [65533]) (by omega) (by omega) (by simp at sz ⊢; omega) ?_; intro v' w3 o3 g3 a3))
            all_goals
              have hb3 : Below w.heap.size w w3 := (hb2.alloc sz _).grown g3 (by simp at sz ⊢; omega) (fun k hk => (o2.out.lt k hk).1)
              obtain ⟨A3, c3, rfl⟩ := own_form o3
              have O3 : Hid (w3.ownsRow w.heap.size 2 1 (.slice A3 (out ++ [65533]).length c3) (out ++ [65533]).length (nums .i64 (out ++ [65533]))) := Lib.hid (by simpa [nums] using o3)
              clear o3 g3 a3 o2 hb2
              go_roundw
              case rel => exact ⟨rest.drop F, out ++ [65533], _, A3, _, c3, by rw [List.length_drop], by simp, by simp; omega, by omega, by simp; omega, Lib.hid (by rw [List.drop_of_length_le (by have := G1.out; omega)]; exact Rd.nil _ _ _), O3, Lib.hid (fun b' h' => hBy.out b' (List.mem_of_mem_drop h')), Lib.hid (by rw [E.out]; simp), hb3⟩
              case measure => first | omega | (simp; omega)
      · have j1 : ((F : Int) == (rest.length : Int)) = false := by simp; omega
        have fl' : F < rest.length := by omega
        clear g1
        by_cases g3 : (F : Int) = S
        · have j3 : ((F : Int) == S) = true := by simp [g3]
          have G3 := Lib.hid g3
          clear g3
          have e := hD.out
          rw [decode_step rest h0 (by rw [← hF.out, ← hS.out]; omega)] at e
          rw [← hF.out, ← hS.out, if_pos G3.out] at e
          have E := Lib.hid e
          clear e
          have hfull := full_of rest h0 r0.1 (by rw [← hF.out, ← hS.out]; exact G3.out)
          rw [← hF.out] at hfull
          have HF := Lib.hid hfull
          clear hfull
          have TL : Hid ((rest.take F).length = F) := Lib.hid (by simp; omega)
          go_wp2_with (first
            | (go_at_call 50; refine (l1Size_any _ _ (by omega) (by omega)).mono ?_; rintro e w' ⟨rfl, rfl⟩; rw [← hS.out])
            | fail)
          refine (l1Value_n _ (rest.take F) F c1 _ B TL.out (by rw [nums_take]; exact (hR.out.below (below_drewN hbr n1) hB).take F) HF.out).mono ?_
          rintro e w2 ⟨rfl, n2, rfl⟩
          obtain ⟨V, hV⟩ : ∃ V, Hid (V = val (rest.take F)) := ⟨_, Lib.hid rfl⟩
          rw [← hV.out] at E
          rw [← hV.out]
          have hb2 := below_drewN hbr (n1 + n2)
          have o2 := Lib.hid (own_below hO.out (below_drewN (Below.refl _ wr) (n1 + n2)))
          have sz := hb2.size
          go_wp2_with (at_builtin; refine wpList_app rfl _ _ _ rfl w.heap.size Tryd.underlying24 hi hz0 hz1 hz2 rfl (by omega) rfl (o2.out.alloc _) rfl (Rd.lit _ #[.int .i64 V] _) (m := 1) rfl (nums_one .i64 [V]) (by omega) (by omega) (by simp at sz ⊢; omega) ?_; intro v' w3 o3 g3 a3)
          all_goals
            have hb3 : Below w.heap.size w w3 := (hb2.alloc sz _).grown g3 (by simp at sz ⊢; omega) (fun k hk => (o2.out.lt k hk).1)
            obtain ⟨A3, c3, rfl⟩ := own_form o3
            have O3 : Hid (w3.ownsRow w.heap.size 2 1 (.slice A3 (out ++ [V]).length c3) (out ++ [V]).length (nums .i64 (out ++ [V]))) := Lib.hid (by simpa [nums] using o3)
            clear o3 g3 a3 o2 hb2
            go_roundw
            case rel => exact ⟨rest.drop F, out ++ [V], _, A3, _, c3, by rw [List.length_drop], by simp, by simp; omega, by omega, by simp; omega, Lib.hid (by rw [nums_drop]; exact hR.out.drop F), O3, Lib.hid (fun b' h' => hBy.out b' (List.mem_of_mem_drop h')), Lib.hid (by rw [E.out]; simp), hb3⟩
            case measure => first | omega | (simp; omega)
        · have j3 : ((F : Int) == S) = false := by simp [g3]
          have G3 := Lib.hid g3
          have e := hD.out
          rw [decode_step rest h0 (by rw [← hF.out, ← hS.out]; omega)] at e
          rw [← hF.out, ← hS.out, if_neg G3.out] at e
          have E := Lib.hid e
          clear e g3
          have hb2 := below_drewN hbr n1
          have o2 := Lib.hid (own_below hO.out (below_drewN (Below.refl _ wr) n1))
          have sz := hb2.size
          go_wp2_with (first
            | (go_at_call 50; refine (l1Size_any _ _ (by omega) (by omega)).mono ?_; rintro e w' ⟨rfl, rfl⟩; rw [← hS.out])
            | (at_builtin; refine wpList_app rfl _ _ _ rfl w.heap.size Tryd.underlying24 hi hz0 hz1 hz2 rfl (by omega) rfl (o2.out.alloc _) rfl (Rd.lit _ #[.int .i64 65533] _) (m := 1) rfl (nums_one .i64 [65533]) (by omega) (by omega) (by simp at sz ⊢; omega) ?_; intro v' w3 o3 g3 a3))
          all_goals
            have hb3 : Below w.heap.size w w3 := (hb2.alloc sz _).grown g3 (by simp at sz ⊢; omega) (fun k hk => (o2.out.lt k hk).1)
            obtain ⟨A3, c3, rfl⟩ := own_form o3
            have O3 : Hid (w3.ownsRow w.heap.size 2 1 (.slice A3 (out ++ [65533]).length c3) (out ++ [65533]).length (nums .i64 (out ++ [65533]))) := Lib.hid (by simpa [nums] using o3)
            clear o3 g3 a3 o2 hb2
            go_roundw
            case rel => exact ⟨rest.drop F, out ++ [65533], _, A3, _, c3, by rw [List.length_drop], by simp, by simp; omega, by omega, by simp; omega, Lib.hid (by rw [nums_drop]; exact hR.out.drop F), O3, Lib.hid (fun b' h' => hBy.out b' (List.mem_of_mem_drop h')), Lib.hid (by rw [E.out]; simp), hb3⟩
            case measure => first | omega | (simp; omega)
    · obtain rfl : rest = [] := List.eq_nil_of_length_eq_zero (by omega)
      have e := hD.out
      rw [decode_nil] at e
      simp only [List.append_nil] at e
      have E := Lib.hid e
      clear e
      go_wp2
      go_ret2
      rw [E.out]
      exact ⟨⟨_, _, rfl, Own.mk_ hO.out rfl, ⟨_, _, rfl, Rd.nil _ _ _⟩⟩, hbr⟩

set_option maxRecDepth 100000 in
set_option maxHeartbeats 400000 in
theorem l1Copy_own (v : Value) (bs : List Int) (w : World) (B : Nat) (h : Sees w B .u8 v bs) (hB : B ≤ w.heap.size) (hl : bs.length < 1000000000) :
    Calls Tryd.prog 44 #[v] w fun e w' => (∃ v', e = .returned v' ∧ Own w' w.heap.size w'.heap.size 5 .u8 v' bs) ∧ Below w.heap.size w w' := by
  obtain ⟨i0, hi, hz0, hz1, hz2⟩ := info_parts info_uint8
  obtain ⟨A, c, rfl, hr⟩ := h
  have HR := Lib.hid (hr.below ((Below.refl B w).alloc hB (.cells #[] 5)) (Nat.le_refl _))
  have o0 := Lib.hid (World.ownsRow_lit (base := w.heap.size) (e := 5) (size := 1) w #[] 0 (Nat.le_refl _) (by unfold maxLen; omega) rfl)
  clear hr
  go_enter Tryd.func44, Tryd.ntmps44
  go_wp2_with (at_builtin; refine wpList_app rfl _ _ _ rfl w.heap.size Tryd.underlying22 hi hz0 hz1 hz2 rfl (by omega) rfl o0.out rfl HR.out (by rw [nums_length, Nat.mul_one]) (nums_one _ _) (by omega) (by omega) (by simp) ?_; intro v' w2 o2 g2 a2)
  go_ret
  refine ⟨⟨v', rfl, Own.mk_ (n := 0 + bs.length) (by simpa using o2) (by omega)⟩, ((Below.refl w.heap.size w).alloc (Nat.le_refl _) _).grown g2 (by simp) (fun k hk => (o0.out.lt k hk).1)⟩

def chunkC (cs ds : List Int) : Int := if carryF cs = 0 then (if 600 < ds.length then 2 else 0) else 1
def chunkT (cs ds : List Int) : List Int := if chunkC cs ds = 0 then (decode (cs ++ ds)).1 else []
def chunkR (cs ds : List Int) : List Int := if chunkC cs ds = 0 then (decode (cs ++ ds)).2 else []

theorem Own.cap {w : World} {lo hi : Nat} {t : TypeId} {kd : IntKind} {A : Option Addr} {n c : Nat} {zs : List Int} (h : Own w lo hi t kd (.slice A n c) zs) : zs.length = n ∧ n ≤ c ∧ c ≤ maxLen := by
  obtain ⟨A', c', e⟩ := h.form
  injection e with _ e2 e3
  subst e2
  exact ⟨rfl, own_cap h.1⟩

theorem l1Decode_n (A : Option Addr) (bs : List Int) (n c : Nat) (w : World) (B : Nat) (hn : bs.length = n) (hr : Rd w B A (nums .u8 bs)) (hB : B ≤ w.heap.size) (hb : ∀ b ∈ bs, isByte b) (hl : bs.length < 1000000000) (hcap : bs.length ≤ c) (hc63 : c ≤ 9223372036854775807) :
    Calls Tryd.prog 43 #[.slice A n c] w fun e w' => (∃ A1 c1 v2, e = .returned (.tuple #[.slice A1 (decode bs).1.length c1, v2]) ∧ Own w' w.heap.size w'.heap.size 2 .i64 (.slice A1 (decode bs).1.length c1) (decode bs).1 ∧ Sees w' B .u8 v2 (decode bs).2) ∧ Below w.heap.size w w' := by
  subst hn
  refine (l1Decode_any A bs c w B hr hB hb hl hcap hc63).mono fun e w' ⟨⟨v1, v2, he, ho, hs⟩, hb⟩ => ?_
  obtain ⟨A1, c1, rfl⟩ := ho.form
  exact ⟨⟨A1, c1, v2, he, ho, hs⟩, hb⟩

/-- the last step of a function that has stored its three fields -/
theorem carryF_len {cs : List Int} (h : carryF cs = 0) : cs.length ≤ 3 := by
  unfold carryF at h
  split at h
  · rename_i g
    rcases g with g | g
    · omega
    · rcases Nat.eq_zero_or_pos cs.length with e | h0
      · omega
      · rw [begins_eq cs h0] at g
        simp only [Bool.and_eq_true, decide_eq_true_eq] at g
        exact g.1.1
  · omega

theorem chunkC_ne {cs ds : List Int} (h : chunkC cs ds ≠ 0) : chunkT cs ds = [] ∧ chunkR cs ds = [] := by
  unfold chunkT chunkR; rw [if_neg h]; rw [if_neg h]; exact ⟨rfl, rfl⟩

set_option maxRecDepth 100000 in
set_option maxHeartbeats 2000000 in
theorem specDecodeChunk_val (v0 : Value) (zs0 : List Int) (v1 : Value) (zs1 : List Int) (w : World) (hT : Tabs w) (B0 : Nat) (h0 : Sees w B0 .u8 v0 zs0) (hB0 : B0 ≤ w.heap.size) (l0 : zs0.length < 1000000000) (hw0 : ∀ n ∈ zs0, (Lit.int .u8 n).wf = true)
    (B1 : Nat) (h1 : Sees w B1 .u8 v1 zs1) (hB1 : B1 ≤ w.heap.size) (l1 : zs1.length < 1000000000) (hw1 : ∀ n ∈ zs1, (Lit.int .u8 n).wf = true) :
    Calls Tryd.prog 16 #[v0, v1] w fun e w' => (∃ u1 u2, e = .returned (.agg #[.int .i64 (chunkC zs0 zs1), u1, u2]) ∧ Own w' w.heap.size w'.heap.size 2 .i64 u1 (chunkT zs0 zs1) ∧ Own w' w.heap.size w'.heap.size 5 .u8 u2 (chunkR zs0 zs1) ∧ (u1.ownBlock = none ∨ u1.ownBlock ≠ u2.ownBlock)) ∧ Below w.heap.size w w' := by
  obtain ⟨i0, hi, hz0, hz1, hz2⟩ := info_parts info_uint8
  have HT := Lib.hid hT
  have HS := Lib.hid h0
  have HS1 := Lib.hid h1
  have HW := Lib.hid hw0
  have HW1 := Lib.hid hw1
  obtain ⟨A0, c0, rfl, _⟩ := h0
  obtain ⟨A1, c1, rfl, _⟩ := h1
  clear hT hw0 hw1
  have b0 := (Below.refl w.heap.size w).alloc (Nat.le_refl _) (.cells #[.int .i64 0, .slice none 0 0, .slice none 0 0] 32)
  have k0 := Blk.new w 32 #[.int .i64 0, .slice none 0 0, .slice none 0 0]
  rcases carryF_01 zs0 with hc | hc
  · have HC := Lib.hid hc
    clear hc
    go_enter Tryd.func16, Tryd.ntmps16
    go_wp2_with fail
    refine (specCarryFault_val _ zs0 _ (HT.out.alloc _) B0 (HS.out.alloc hB0 _) (by simp; omega) l0 HW.out).mono ?_
    rintro e w1 ⟨rfl, b1⟩
    rw [HC.out]
    have k1 := k0.below b1 k0.lt
    have b2 := below_on b0 b1 (Nat.le_refl _)
    have sz := b2.size
    by_cases g : 600 < zs1.length
    · have EC : Hid (chunkC zs0 zs1 = 2) := Lib.hid (by unfold chunkC; rw [if_pos HC.out, if_pos g])
      have EE := Lib.hid (chunkC_ne (cs := zs0) (ds := zs1) (by rw [EC.out]; omega))
      have hd0 := k1.cell 0 (u := .int .i64 0) rfl
      have hd1 := k1.cell 1 (u := .slice none 0 0) rfl
      have hd2 := k1.cell 2 (u := .slice none 0 0) rfl
      have hf0 := k1.frozen 0
      have hf1 := k1.frozen 1
      have hf2 := k1.frozen 2
      go_wp2
      refine bodyPost_ret (v := .agg #[.int .i64 2, .slice none 0 0, .slice none 0 0]) (by simp [results, Tryd.results16, go_sem, hd0, hd1, hd2]) rfl ?_
      rw [EC.out, EE.out.1, EE.out.2]
      exact ⟨⟨_, _, rfl, Own.nil _ _ _ _ _, Own.nil _ _ _ _ _, .inl rfl⟩, ((b2.setCell (by simp) _).setCell (by simp) _).setCell (by simp) _⟩
    · go_wp2_with fail
      refine (l1Copy_own _ zs0 _ B0 (HS.out.below b2 hB0) (by omega) l0).mono ?_
      rintro e w2 ⟨⟨x0, rfl, o2⟩, b3⟩
      have b4 := below_on b2 b3 (Nat.le_refl _)
      have k2 := k1.below b3 k1.lt
      have sz3 := b3.size
      obtain ⟨A2, c2, rfl⟩ := o2.form
      have O2 := Lib.hid o2
      obtain ⟨A1', c1', e1, r1⟩ := HS1.out.below b4 hB1
      injection e1 with e1 e2 e3
      subst e1; subst e3
      have R1 := Lib.hid r1
      clear r1 o2 b3 e2
      go_wp2_with (at_builtin; refine wpList_app rfl _ _ _ rfl w.heap.size Tryd.underlying22 hi hz0 hz1 hz2 rfl (by omega) rfl (own_more O2.out.1 (by omega)) rfl R1.out (by rw [nums_length, Nat.mul_one]) (nums_one _ _) (by omega) (by omega) (by omega) ?_; intro v' w3 o3 g3 a3)
      have O3 := Lib.hid o3
      have hlt := k1.lt
      have b5 : Below w.heap.size w w3 := b4.grown g3 (by omega) (fun k hk => by have := (O2.out.lt k hk).1; omega)
      have k3 : Blk w3 w.heap.size 32 #[.int .i64 0, .slice none 0 0, .slice none 0 0] := (g3.block _ (by omega) (fun e => by have := (O2.out.lt _ e.symm).1; have := k1.lt; omega)).trans k2
      have sz5 := g3.size
      have l3 := carryF_len HC.out
      obtain ⟨A3, c3, rfl⟩ := own_form o3
      have cp := own_cap o3
      unfold maxLen at cp
      have hbytes : ∀ b ∈ zs0 ++ zs1, isByte b := fun b hb => by
        rcases List.mem_append.1 hb with h | h
        · exact bytes_of HW.out b h
        · exact bytes_of HW1.out b h
      have HBY := Lib.hid hbytes
      clear o3 g3 a3 hbytes
      refine (l1Decode_n A3 (zs0 ++ zs1) (zs0.length + zs1.length) c3 _ w3.heap.size (by simp) (by rw [show nums .u8 (zs0 ++ zs1) = nums .u8 zs0 ++ nums .u8 zs1 by simp [nums]]; exact Rd.of O3.out) (Nat.le_refl _) HBY.out (by simp; omega) (by simp; omega) (by omega)).mono ?_
      rintro e w4 ⟨⟨A4, c4, v5, rfl, o4, hs4⟩, b6⟩
      obtain ⟨D, hD⟩ : ∃ D, Hid (D = decode (zs0 ++ zs1)) := ⟨_, Lib.hid rfl⟩
      have dl := (decode_len (zs0 ++ zs1)).2
      rw [← hD.out] at o4 hs4 dl ⊢
      simp only [List.length_append] at dl
      have b7 := below_on b5 b6 (Nat.le_refl _)
      have k4 := k3.below b6 k3.lt
      have sz6 := b6.size
      clear b6
      go_wp2_with fail
      refine (l1Copy_own v5 D.2 w4 _ hs4 (by omega) (by omega)).mono ?_
      rintro e w5 ⟨⟨v6, rfl, o6⟩, b8⟩
      have b9 := below_on b7 b8 (Nat.le_refl _)
      have k5 := k4.below b8 k4.lt
      have o5 := o4.below b8 (Nat.le_refl _)
      have dj := own_disj o4 o6 (.inl (Nat.le_refl _))
      obtain ⟨A6, c6, rfl⟩ := o6.form
      have sz7 := b8.size
      have EC : Hid (chunkC zs0 zs1 = 0) := Lib.hid (by unfold chunkC; rw [if_pos HC.out, if_neg g])
      have ET : Hid (chunkT zs0 zs1 = D.1) := Lib.hid (by unfold chunkT; rw [if_pos EC.out, hD.out])
      have ER : Hid (chunkR zs0 zs1 = D.2) := Lib.hid (by unfold chunkR; rw [if_pos EC.out, hD.out])
      have hd0 := k5.cell 0 (u := .int .i64 0) rfl
      have hd1 := k5.cell 1 (u := .slice none 0 0) rfl
      have hd2 := k5.cell 2 (u := .slice none 0 0) rfl
      have hf0 := k5.frozen 0
      have hf1 := k5.frozen 1
      have hf2 := k5.frozen 2
      clear b8 o4
      go_wp2
      refine bodyPost_ret (v := .agg #[.int .i64 0, .slice A4 D.1.length c4, .slice A6 D.2.length c6]) (by simp [results, Tryd.results16, go_sem, hd0, hd1, hd2]) rfl ?_
      rw [EC.out, ET.out, ER.out]
      exact ⟨⟨_, _, rfl, (((o5.set _ _ (.inl (by simp; omega))).set _ _ (.inl (by simp; omega))).set _ _ (.inl (by simp; omega))).more (by omega) (by simp; omega), (((o6.set _ _ (.inl (by simp; omega))).set _ _ (.inl (by simp; omega))).set _ _ (.inl (by simp; omega))).more (by omega) (by simp), dj⟩, ((b9.setCell (by simp) _).setCell (by simp) _).setCell (by simp) _⟩
  · have HC := Lib.hid hc
    have EC : Hid (chunkC zs0 zs1 = 1) := Lib.hid (by unfold chunkC; rw [if_neg (by omega)])
    have EE := Lib.hid (chunkC_ne (cs := zs0) (ds := zs1) (by rw [EC.out]; omega))
    clear hc
    go_enter Tryd.func16, Tryd.ntmps16
    go_wp2_with fail
    refine (specCarryFault_val _ zs0 _ (HT.out.alloc _) B0 (HS.out.alloc hB0 _) (by simp; omega) l0 HW.out).mono ?_
    rintro e w1 ⟨rfl, b1⟩
    rw [HC.out]
    have k1 := k0.below b1 k0.lt
    have b2 := below_on b0 b1 (Nat.le_refl _)
    have hd0 := k1.cell 0 (u := .int .i64 0) rfl
    have hd1 := k1.cell 1 (u := .slice none 0 0) rfl
    have hd2 := k1.cell 2 (u := .slice none 0 0) rfl
    have hf0 := k1.frozen 0
    have hf1 := k1.frozen 1
    have hf2 := k1.frozen 2
    go_wp2
    refine bodyPost_ret (v := .agg #[.int .i64 1, .slice none 0 0, .slice none 0 0]) (by simp [results, Tryd.results16, go_sem, hd0, hd1, hd2]) rfl ?_
    rw [EC.out, EE.out.1, EE.out.2]
    exact ⟨⟨_, _, rfl, Own.nil _ _ _ _ _, Own.nil _ _ _ _ _, .inl rfl⟩, ((b2.setCell (by simp) _).setCell (by simp) _).setCell (by simp) _⟩
end Go.Proofs.YtmkpbfghnkmcgaaDoor
