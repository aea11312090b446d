/- Chapter 7: what the brackets of a pair become, by the program's closures. -/
import Derived.Test.YtkkojemnbcddfaaDoorZ3
import Derived.Test.YtkkojemnbcddfaaDoorZ4
namespace Go.Proofs.YtkkojemnbcddfaaDoor
open Go.RowKit Go.Maps

theorem Rd.mid {kd : IntKind} {w : World} {B : Nat} {b off : Nat} {zs : List Int} (h : Rd w B (some ⟨b, off, none⟩) (nums kd zs)) (f t : Nat) : Rd w B (some ⟨b, off + f, none⟩) (nums kd ((zs.take t).drop f)) := by
  intro k u hu
  have e : nums kd ((zs.take t).drop f) = ((nums kd zs).take t).drop f := by simp [nums, List.map_take, List.map_drop]
  rw [e, List.getElem?_drop, List.getElem?_take] at hu
  split at hu
  · obtain ⟨b', off', h1, h2, h3⟩ := h _ u hu
    injection h1 with h1
    injection h1 with h1 h4
    subst h1; subst h4
    exact ⟨b, off + f, rfl, h2, by rw [Nat.add_assoc]; exact h3⟩
  · cases hu
theorem sideL_next (n : Int) : sideL (n + 1) = 1 - sideL n := by
  unfold sideL
  by_cases h : n % 2 = 0
  · rw [if_pos h, if_neg (by omega)]; rfl
  · rw [if_neg h, if_pos (by omega)]; rfl
/-- what the closure holds -/
structure SoP (w : World) (A : Option Addr) (n c : Nat) (way sos : Int) (B g1 g2 g3 g4 : Nat) : Prop where
  c1 : w.cell? ⟨g1, 0, none⟩ = some (.slice A n c)
  c2 : w.cell? ⟨g2, 0, none⟩ = some (.int .i64 way)
  c3 : w.cell? ⟨g3, 0, none⟩ = some (.int .i64 (1 - way))
  c4 : w.cell? ⟨g4, 4, none⟩ = some (.int .i64 sos)
  l1 : g1 < B
  l2 : g2 < B
  l3 : g3 < B
  l4 : g4 < B
theorem SoP.below {w w' : World} {A : Option Addr} {n c : Nat} {way sos : Int} {B g1 g2 g3 g4 : Nat} (h : SoP w A n c way sos B g1 g2 g3 g4) (hb : Below B w w') : SoP w' A n c way sos B g1 g2 g3 g4 :=
  ⟨(hb.cell (p := ⟨g1, 0, none⟩) h.l1).trans h.c1, (hb.cell (p := ⟨g2, 0, none⟩) h.l2).trans h.c2, (hb.cell (p := ⟨g3, 0, none⟩) h.l3).trans h.c3, (hb.cell (p := ⟨g4, 4, none⟩) h.l4).trans h.c4, h.l1, h.l2, h.l3, h.l4⟩
set_option maxRecDepth 100000 in
set_option maxHeartbeats 4000000 in
theorem sidesOfPairs1_any {w : World} {A : Option Addr} {n cap : Nat} {cur : List Int} {way sos : Int} {g1 g2 g3 g4 : Nat} (h : SoP w A n cap way sos w.heap.size g1 g2 g3 g4) (hr : Rd w w.heap.size A (nums .i64 cur)) (hn : cur.length = n) (hcap : n ≤ cap) (hl : n ≤ 600) (hw : way = 0 ∨ way = 1) (hs : sos = 0 ∨ sos = 1) (o c : Nat) (hoc : o < c) (hc : c < n) :
    Calls Tryd.prog 89 #[.agg #[.int .i64 o, .int .i64 c], .pointer (some ⟨g1, 0, none⟩), .pointer (some ⟨g2, 0, none⟩), .pointer (some ⟨g3, 0, none⟩), .pointer (some ⟨g4, 0, none⟩)] w fun e w' => e = .returned (.int .i64 (becomesN cur ((o : Int), (c : Int)) way sos)) ∧ Below w.heap.size w w' := by
  obtain ⟨b, off, rfl, hb, _⟩ := hr.int (by omega)
  have b0 := (Below.refl w.heap.size w).alloc (Nat.le_refl _) (.cells #[.int .i64 o, .int .i64 c] 34)
  have BE := Lib.hid (becomes_eq cur o c hoc (by omega) hw hs)
  obtain ⟨ans, hans⟩ : ∃ x, Hid (becomesN cur ((o : Int), (c : Int)) way sos = x) := ⟨_, Lib.hid rfl⟩
  rw [hans.out] at BE ⊢
  have ML := Lib.hid (amid_len cur (o + 1) c (by omega))
  have RM : Hid (∀ W, Below w.heap.size w W → Rd W w.heap.size (some ⟨b, off + (o + 1), none⟩) (nums .i64 (amid cur (o + 1) c))) := Lib.hid (fun W hW => (hr.mid (o + 1) c).below hW (Nat.le_refl _))
  have RT : Hid (∀ W, Below w.heap.size w W → Rd W w.heap.size (some ⟨b, off, none⟩) (nums .i64 (cur.take o))) := Lib.hid (fun W hW => by have := (hr.below hW (Nat.le_refl _)).take o; simpa [nums, List.map_take] using this)
  have TL := Lib.hid (show (cur.take o).length = o by rw [List.length_take]; omega)
  have AT := Lib.hid (aheadS_take cur sos o o (Nat.le_refl _))
  have HS := Lib.hid h
  have H0 := Lib.hid (h.below b0)
  obtain ⟨m, hm⟩ : ∃ m, Hid (amid cur (o + 1) c = m) := ⟨_, Lib.hid rfl⟩
  rw [hm.out] at BE ML RM
  have ml6 : m.length ≤ 600 := by have := ML.out; omega
  have a1 : o + 1 ≤ c := hoc
  have a2 : c ≤ cap := by omega
  have a3 : o + 1 < cap := by omega
  have a4 : (o : Int) + 1 ≤ (c : Int) := by omega
  have a5 : (c : Int) ≤ (cap : Int) := by omega
  have LS : Hid (∀ (W : World) (c' : Nat), Below w.heap.size w W → Calls Tryd.prog 92 #[.slice (some ⟨b, off, none⟩) o c', .int .i64 sos] W fun e w' => e = .returned (.int .i64 (aheadS cur sos o)) ∧ Below W.heap.size W w') := Lib.hid (fun W c' hW => by
    have := lastSide_any (some ⟨b, off, none⟩) (cur.take o) c' sos W w.heap.size (RT.out W hW) hW.size (by rw [TL.out]; omega)
    rw [TL.out, AT.out] at this
    exact this)
  have e1 := H0.out.c1
  have e2 := H0.out.c2
  have B0 := Lib.hid b0
  have KP := Lib.hid (Blk.new w 34 #[.int .i64 o, .int .i64 c])
  have z0 := Lib.hid (show (w.alloc (.cells #[.int .i64 o, .int .i64 c] 34)).heap.size = w.heap.size + 1 from by simp)
  clear hr h b0
  go_enter Tryd.func89, Tryd.ntmps89
  go_wp2_with fail
  generalize w.alloc (.cells #[.int .i64 o, .int .i64 c] 34) = wA at *
  refine (hasSide_any way wA).mono ?_
  rintro e w' ⟨rfl, rfl⟩
  have bA := (Below.refl wA.heap.size wA).alloc (Nat.le_refl _) (.cells #[.int .i64 way] 2)
  have KB := Lib.hid (Blk.new wA 2 #[.int .i64 way])
  have B1 := Lib.hid (B0.out.alloc (by have := z0.out; omega) (.cells #[.int .i64 way] 2))
  have KP1 := Lib.hid (KP.out.alloc (.cells #[.int .i64 way] 2))
  have z1 := Lib.hid (show (wA.alloc (.cells #[.int .i64 way] 2)).heap.size = w.heap.size + 2 from by simp [z0.out])
  generalize wA.alloc (.cells #[.int .i64 way] 2) = wB at *
  clear e1 e2 KP bA B0 H0
  go_wp2_with fail
  rw [← ML.out]
  refine (containsSide_any _ m _ way wA.heap.size wB _ (RM.out wB B1.out) (KB.out.cell 0 rfl) ml6).mono ?_
  rintro e w' ⟨rfl, m1, rfl⟩
  have H2 := Lib.hid (HS.out.below (below_drewN B1.out m1))
  have e2 := H2.out.c2
  have e3 := H2.out.c3
  cases hA : anyS m way with
  | true =>
    rw [hA, if_pos rfl] at BE
    have BX := Lib.hid (below_drewN B1.out m1)
    clear hA
    go_wp2
    go_ret
    exact ⟨rint BE.out.symm, BX.out⟩
  | false =>
    rw [hA, if_neg (by simp)] at BE
    have B2 := Lib.hid (below_drewN B1.out m1)
    have KP2 := Lib.hid (show Blk (wB.drewN m1) w.heap.size 34 #[.int .i64 o, .int .i64 c] from KP1.out)
    have z2 := Lib.hid (show (wB.drewN m1).heap.size = w.heap.size + 2 from z1.out)
    clear hA B1 KP1 KB
    go_wp2_with fail
    generalize wB.drewN m1 = wC at *
    refine (hasSide_any (1 - way) wC).mono ?_
    rintro e w' ⟨rfl, rfl⟩
    have KB := Lib.hid (Blk.new wC 2 #[.int .i64 (1 - way)])
    have B3 := Lib.hid (B2.out.alloc (by have := z2.out; omega) (.cells #[.int .i64 (1 - way)] 2))
    have KP3 := Lib.hid (KP2.out.alloc (.cells #[.int .i64 (1 - way)] 2))
    have z3 := Lib.hid (show (wC.alloc (.cells #[.int .i64 (1 - way)] 2)).heap.size = w.heap.size + 3 from by simp [z2.out])
    generalize wC.alloc (.cells #[.int .i64 (1 - way)] 2) = wD at *
    clear e2 e3 H2 B2 KP2
    go_wp2_with fail
    refine (containsSide_any _ m _ (1 - way) wC.heap.size wD _ (RM.out wD B3.out) (KB.out.cell 0 rfl) ml6).mono ?_
    rintro e w' ⟨rfl, m2, rfl⟩
    cases hO : anyS m (1 - way) with
    | true =>
      rw [hO, if_pos rfl] at BE
      have B4 := Lib.hid (below_drewN B3.out m2)
      have KP4 := Lib.hid (show Blk (wD.drewN m2) w.heap.size 34 #[.int .i64 o, .int .i64 c] from KP3.out)
      have z4 := Lib.hid (show (wD.drewN m2).heap.size = w.heap.size + 3 from z3.out)
      clear hO B3 KP3 KB
      go_wp2_with fail
      generalize wD.drewN m2 = wE at *
      have H4 := Lib.hid (HS.out.below B4.out)
      have f1 := H4.out.c1
      have f4 := H4.out.c4
      have fp := KP4.out.cell 0 (u := .int .i64 o) rfl
      have a6 : (o : Int) ≤ (cap : Int) := by omega
      have a7 : o ≤ cap := by omega
      go_region_held3 (fun w' => w'.cell? ⟨g1, 0, none⟩ = some (.slice (some ⟨b, off, none⟩) n cap) ∧ w'.cell? ⟨g4, 4, none⟩ = some (.int .i64 sos) ∧ w'.cell? ⟨w.heap.size, 0, none⟩ = some (.int .i64 o)) (first | exact ⟨f1, f4, fp⟩ | exact ⟨f15, f45, fp5⟩) (first
        | (go_at_call 92; refine (LS.out wE.drew _ (below_drewN B4.out 1)).mono ?_; rintro e w5 ⟨rfl, b5⟩
           have qb5 : Below wE.heap.size wE w5 := ⟨b5.os, b5.tape, b5.output, b5.size, b5.block⟩
           have B5 := Lib.hid (B4.out.trans (qb5.mono (by have := z4.out; omega)))
           have KP5 := Lib.hid (KP4.out.below qb5 (by have := z4.out; omega))
           have H5 := Lib.hid (HS.out.below B5.out)
           have f15 := H5.out.c1
           have f45 := H5.out.c4
           have fp5 := KP5.out.cell 0 (u := .int .i64 o) rfl
           clear b5 qb5))
      go_wp2
      go_ret
      exact ⟨rint BE.out.symm, B5.out⟩
    | false =>
      rw [hO, if_neg (by simp)] at BE
      have B4 := Lib.hid (below_drewN B3.out m2)
      clear hO
      go_wp2
      go_ret
      exact ⟨rint BE.out.symm, B4.out⟩
end Go.Proofs.YtkkojemnbcddfaaDoor
