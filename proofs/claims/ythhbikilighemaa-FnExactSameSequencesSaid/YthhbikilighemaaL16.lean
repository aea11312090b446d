/- Chapter 4: the program's levels that are told: how the teller begins. -/
import Derived.Test.YthhbikilighemaaL15
import Derived.Test.YthhbikilighemaaS1
namespace Go.Proofs.Ythhbikilighemaa
open Go.RowKit Go.Maps

set_option maxRecDepth 100000 in
set_option maxHeartbeats 2000000 in
theorem tellerOf_any (A : Option Addr) (ks : List Int) (c : Nat) (b : Int) (w : World) (hr : Rd w w.heap.size A (nums .i64 ks)) (hl : ks.length ≤ 600) :
    Calls Try.prog 60 #[.slice A ks.length c, .int .i64 b] w fun e w' => (∃ (g gs N cm : Nat) (Am : Option Addr) (v1 v2 v3 : Value), e = .returned (.pointer (some ⟨g, 0, none⟩)) ∧ w.heap.size ≤ N ∧ N ≤ w'.heap.size ∧ Rd w' N Am (nums .i64 (matchN ks)) ∧
      TSt w' (fun k => N ≤ k) g gs ⟨[⟨b, -1, false⟩], 0, 0, 0⟩ (List.replicate ks.length (-1)) ks (.slice A ks.length c) (.slice Am ks.length cm) v1 v2 v3) ∧ Below w.heap.size w w' := by
  go_enter Try.func60, Try.ntmps60
  go_wp2_with fail
  refine (matchesAmong_any A ks c w _ hr (Nat.le_refl _) hl).mono ?_
  rintro e w1 ⟨⟨vm, rfl, om⟩, b1⟩
  obtain ⟨Am, cm, rfl⟩ := om.form
  have mlen : (matchN ks).length = ks.length := matchN_len ks
  rw [mlen]
  obtain ⟨N, hN⟩ : ∃ N, Hid (N = w1.heap.size) := ⟨_, Lib.hid rfl⟩
  have R1 := Lib.hid (hr.below b1 (Nat.le_refl _))
  have M1 := Lib.hid (by have := om.1; rw [mlen] at this; exact Rd.of this)
  have s1 := b1.size
  have B1 := Lib.hid b1
  clear om b1 hr mlen
  have kS := Blk.new w1 100 #[.slice none 0 0]
  have kA := kS.alloc (.cells #[.int .i64 (-1)] 2)
  have cx := (Blk.new (w1.alloc (.cells #[.slice none 0 0] 100)) 2 #[.int .i64 (-1)]).cell 0 (u := .int .i64 (-1)) rfl
  rw [World.size_alloc] at cx
  have bA := ((Below.refl w1.heap.size w1).alloc (Nat.le_refl _) (.cells #[.slice none 0 0] 100)).alloc (by simp) (.cells #[.int .i64 (-1)] 2)
  have KA := Lib.hid kA
  have CX := Lib.hid cx
  have BA := Lib.hid bA
  clear kS kA cx bA
  go_wp2_with fail
  refine (repeat_any (-1) (w1.heap.size + 1) ks.length _ CX.out (by omega)).mono ?_
  rintro e w2 ⟨⟨v2, rfl, o2⟩, b2⟩
  have K2 := Lib.hid (KA.out.below b2 KA.out.lt)
  have B2 := Lib.hid (below_on BA.out b2 (Nat.le_refl _))
  have s2 : w1.heap.size + 2 ≤ w2.heap.size := by have := b2.size; simpa using this
  have OL := Lib.hid (show Own w2 (w1.heap.size + 2) w2.heap.size 2 .i64 v2 (List.replicate ks.length (-1)) by have := o2; rw [World.size_alloc, World.size_alloc] at this; exact this)
  obtain ⟨A2, c2, rfl⟩ := o2.form
  rw [List.length_replicate] at *
  have R2 := Lib.hid (R1.out.below B2.out s1)
  clear o2 b2 KA CX BA
  go_wp2_with fail
  refine (cloneInt_own (.slice A ks.length c) ks w2 w.heap.size ⟨A, c, rfl, R2.out⟩ (by omega) (by omega)).mono ?_
  rintro e w3 ⟨⟨v3, rfl, o3⟩, b3⟩
  obtain ⟨A3, c3, rfl⟩ := o3.form
  have OL3 := Lib.hid (OL.out.below b3 (Nat.le_refl _))
  have OC3 := Lib.hid o3
  have K3 := Lib.hid (K2.out.below b3 K2.out.lt)
  have B3 := Lib.hid (below_on B2.out b3 (Nat.le_refl _))
  have s3 := b3.size
  clear o3 b3
  have kT := Blk.new w3 85 #[.slice A ks.length c, .slice Am ks.length cm, .pointer (some ⟨w1.heap.size, 0, none⟩), .int .i64 0, .int .i64 0, .int .i64 0, .int .i64 0, .slice A2 ks.length c2, .slice A3 ks.length c3]
  have T4 : Hid (TSt (w3.alloc (.cells #[.slice A ks.length c, .slice Am ks.length cm, .pointer (some ⟨w1.heap.size, 0, none⟩), .int .i64 0, .int .i64 0, .int .i64 0, .int .i64 0, .slice A2 ks.length c2, .slice A3 ks.length c3] 85))
      (fun k => N ≤ k) w3.heap.size w1.heap.size ⟨[], 0, 0, 0⟩ (List.replicate ks.length (-1)) ks (.slice A ks.length c) (.slice Am ks.length cm) (.slice none 0 0) (.slice A2 ks.length c2) (.slice A3 ks.length c3)) := Lib.hid (by
    have l2 := OL3.out.lt
    have l3 := OC3.out.lt
    have h2 := own_more (OL3.out.alloc (.cells #[.slice A ks.length c, .slice Am ks.length cm, .pointer (some ⟨w1.heap.size, 0, none⟩), .int .i64 0, .int .i64 0, .int .i64 0, .int .i64 0, .slice A2 ks.length c2, .slice A3 ks.length c3] 85)).1 (Nat.zero_le _)
    have h3 := own_more (OC3.out.alloc (.cells #[.slice A ks.length c, .slice Am ks.length cm, .pointer (some ⟨w1.heap.size, 0, none⟩), .int .i64 0, .int .i64 0, .int .i64 0, .int .i64 0, .slice A2 ks.length c2, .slice A3 ks.length c3] 85)).1 (Nat.zero_le _)
    have hn := hN.out
    refine ⟨kT, K3.out.alloc _, ?_, ?_, by omega, Row.nil _ _ _ _ _, ⟨h2, fun b hb => ?_⟩, ⟨h3, fun b hb => ?_⟩, by simp [Value.ownBlock], fun b hb => ?_, fun b hb => ?_, .inl rfl, .inl rfl, ?_⟩
    · show N ≤ w3.heap.size; omega
    · show N ≤ w1.heap.size; omega
    · have := l2 b hb; exact ⟨show N ≤ b by omega, by omega⟩
    · have := l3 b hb; exact ⟨show N ≤ b by omega, by omega⟩
    · have := l2 b hb; omega
    · have := l3 b hb; omega
    · exact own_disj OL3.out OC3.out (.inl (Nat.le_refl _)))
  have NL := Lib.hid hN.out
  have e2 := T4.out.blk.cell 2 (u := .pointer (some ⟨w1.heap.size, 0, none⟩)) rfl
  clear kT
  go_wp2_with fail
  refine (iPut_any _ (fun k => N ≤ k) w3.heap.size w1.heap.size ⟨[], 0, 0, 0⟩ _ _ _ _ _ _ _ T4.out (fun x hx => by show N ≤ x; have := NL.out; simp at hx; omega) (by simp) b (-1) false).mono ?_
  rintro e w5 ⟨⟨rfl, u5, h5⟩, f5⟩
  have T5 := Lib.hid h5
  have s5 : w3.heap.size + 1 ≤ w5.heap.size := by have := f5.size; simpa using this
  have B5 := Lib.hid (f5.below (B := N) (by have := NL.out; simp; omega) (fun x hx hh => by have : N ≤ x := hh; omega))
  have B4 := Lib.hid (Below.trans (B3.out.alloc B3.out.size (.cells #[.slice A ks.length c, .slice Am ks.length cm, .pointer (some ⟨w1.heap.size, 0, none⟩), .int .i64 0, .int .i64 0, .int .i64 0, .int .i64 0, .slice A2 ks.length c2, .slice A3 ks.length c3] 85)) (NL.out ▸ B5.out))
  have M5 := Lib.hid (M1.out.below B4.out (Nat.le_refl _))
  have BW := Lib.hid (below_on B1.out B4.out (Nat.le_refl _))
  clear h5 f5 e2
  go_wp2
  go_ret
  exact ⟨⟨_, _, N, cm, Am, _, _, _, rfl, by have := NL.out; omega, by have := NL.out; omega, by rw [NL.out]; exact M5.out, T5.out⟩, BW.out⟩
end Go.Proofs.Ythhbikilighemaa
