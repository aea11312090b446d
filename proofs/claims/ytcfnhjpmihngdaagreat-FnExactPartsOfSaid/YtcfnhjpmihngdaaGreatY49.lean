/- Chapter 8: the model's part of a sequence. -/
import Derived.Test.YtcfnhjpmihngdaaGreatY36
import Derived.Test.YtcfnhjpmihngdaaGreatY21
import Derived.Test.YtcfnhjpmihngdaaGreatY48
import Derived.Test.YtcfnhjpmihngdaaGreatY07
import Derived.Test.YtcfnhjpmihngdaaGreatY22
import Derived.Deep.RegionLaw
namespace Go.Proofs.YtcfnhjpmihngdaaGreat
open Go.RowKit Go.Maps

/-- a part under way, behind a pointer -/
structure PW (w : World) (gp : Nat) (u0 u1 u2 : Value) (p : Prt) : Prop where
  blk : Blk w gp 39 #[u0, u1, u2, .int .i64 p.L, .int .i64 p.S, .int .i64 p.E]
  own : OwnPart w (gp + 1) w.heap.size 2 u0 u1 u2 p
section
variable {w w' : World} {gp : Nat} {u0 u1 u2 : Value} {p : Prt}
theorem PW.alloc (h : PW w gp u0 u1 u2 p) (o : Obj) : PW (w.alloc o) gp u0 u1 u2 p := ⟨h.blk.alloc o, (h.own.keepA o).moreP (by simp)⟩
theorem PW.drew (h : PW w gp u0 u1 u2 p) (n : Nat) : PW (w.drewN n) gp u0 u1 u2 p := ⟨h.blk, ⟨h.own.o0, h.own.o1, h.own.o2, h.own.d01, h.own.d02, h.own.d10, h.own.d12, h.own.d20, h.own.d21⟩⟩
theorem PW.below (h : PW w gp u0 u1 u2 p) (hb : Below w.heap.size w w') : PW w' gp u0 u1 u2 p :=
  ⟨h.blk.below hb h.blk.lt, OwnPart.moreP ⟨h.own.o0.below hb (Nat.le_refl _), h.own.o1.below hb (Nat.le_refl _), h.own.o2.below hb (Nat.le_refl _), h.own.d01, h.own.d02, h.own.d10, h.own.d12, h.own.d20, h.own.d21⟩ hb.size⟩
end
theorem PW.app0 {w w5 : World} {gp : Nat} {u0 u1 u2 v' : Value} {p : Prt} {news : List Int} {m : Nat} (h : PW w gp u0 u1 u2 p) (o5 : w5.ownsRow (gp + 1) 2 1 v' (p.T.length + m) (nums .i64 p.T ++ nums .i64 news)) (hm : news.length = m) (g5 : w.grownBy w5 u0.ownBlock) (a5 : v'.ownBlock = u0.ownBlock ∨ v'.ownBlock = some w.heap.size) :
    PW (w5.setCell ⟨gp, 0, none⟩ v') gp v' u1 u2 { p with T := p.T ++ news } := by
  have own : ∀ b, u0.ownBlock = some b → gp + 1 ≤ b := fun b hb => (h.own.o0.lt b hb).1
  have oN : Own (w5.setCell ⟨gp, 0, none⟩ v') (gp + 1) w5.heap.size 2 .i64 v' (p.T ++ news) := (Own.mk_ (n := p.T.length + m) (zs := p.T ++ news) (by simpa [nums] using o5) (by simp [hm])).set _ _ (.inl (by show gp < gp + 1; omega))
  have h1 : Own (w5.setCell ⟨gp, 0, none⟩ v') (gp + 1) w5.heap.size 2 .i64 u1 _ := ((h.own.o1.grown g5 h.own.d10).more (Nat.le_refl _) g5.size).set _ _ (.inl (by show gp < gp + 1; omega))
  have h2 : Own (w5.setCell ⟨gp, 0, none⟩ v') (gp + 1) w5.heap.size 2 .i64 u2 _ := ((h.own.o2.grown g5 h.own.d20).more (Nat.le_refl _) g5.size).set _ _ (.inl (by show gp < gp + 1; omega))
  have n01 := apart_new a5 h.own.o1 h.own.d01
  have n02 := apart_new a5 h.own.o2 h.own.d02
  have bl : Blk w5 gp 39 _ := (g5.block gp h.blk.lt (by intro e; have := own gp e.symm; omega)).trans h.blk
  have sz : (w5.setCell ⟨gp, 0, none⟩ v').heap.size = w5.heap.size := by simp
  exact ⟨bl.set 0 v', by rw [sz]; exact ⟨oN, h1, h2, n01, n02, own_ne_symm n01, h.own.d12, own_ne_symm n02, h.own.d21⟩⟩
theorem PW.app1 {w w5 : World} {gp : Nat} {u0 u1 u2 v' : Value} {p : Prt} {news : List Int} {m : Nat} (h : PW w gp u0 u1 u2 p) (o5 : w5.ownsRow (gp + 1) 2 1 v' (p.F.length + m) (nums .i64 p.F ++ nums .i64 news)) (hm : news.length = m) (g5 : w.grownBy w5 u1.ownBlock) (a5 : v'.ownBlock = u1.ownBlock ∨ v'.ownBlock = some w.heap.size) :
    PW (w5.setCell ⟨gp, 1, none⟩ v') gp u0 v' u2 { p with F := p.F ++ news } := by
  have own : ∀ b, u1.ownBlock = some b → gp + 1 ≤ b := fun b hb => (h.own.o1.lt b hb).1
  have oN : Own (w5.setCell ⟨gp, 1, none⟩ v') (gp + 1) w5.heap.size 2 .i64 v' (p.F ++ news) := (Own.mk_ (n := p.F.length + m) (zs := p.F ++ news) (by simpa [nums] using o5) (by simp [hm])).set _ _ (.inl (by show gp < gp + 1; omega))
  have h1 : Own (w5.setCell ⟨gp, 1, none⟩ v') (gp + 1) w5.heap.size 2 .i64 u0 _ := ((h.own.o0.grown g5 h.own.d01).more (Nat.le_refl _) g5.size).set _ _ (.inl (by show gp < gp + 1; omega))
  have h2 : Own (w5.setCell ⟨gp, 1, none⟩ v') (gp + 1) w5.heap.size 2 .i64 u2 _ := ((h.own.o2.grown g5 h.own.d21).more (Nat.le_refl _) g5.size).set _ _ (.inl (by show gp < gp + 1; omega))
  have n01 := apart_new a5 h.own.o0 h.own.d10
  have n02 := apart_new a5 h.own.o2 h.own.d12
  have bl : Blk w5 gp 39 _ := (g5.block gp h.blk.lt (by intro e; have := own gp e.symm; omega)).trans h.blk
  have sz : (w5.setCell ⟨gp, 1, none⟩ v').heap.size = w5.heap.size := by simp
  exact ⟨bl.set 1 v', by rw [sz]; exact ⟨h1, oN, h2, own_ne_symm n01, h.own.d02, n01, n02, h.own.d20, own_ne_symm n02⟩⟩
theorem PW.set2 {w : World} {gp : Nat} {u0 u1 u2 v : Value} {p : Prt} {N : List Int} {lo : Nat} (h : PW w gp u0 u1 u2 p) (hv : Own w lo w.heap.size 2 .i64 v N) (hlo : gp + 1 ≤ lo) (n0 : u0.ownBlock = none ∨ u0.ownBlock ≠ v.ownBlock) (n1 : u1.ownBlock = none ∨ u1.ownBlock ≠ v.ownBlock) :
    PW (w.setCell ⟨gp, 2, none⟩ v) gp u0 u1 v { p with N := N } := by
  have sz : (w.setCell ⟨gp, 2, none⟩ v).heap.size = w.heap.size := by simp
  have a : gp < gp + 1 := by omega
  exact ⟨h.blk.set 2 v, by rw [sz]; exact ⟨h.own.o0.set _ _ (.inl a), h.own.o1.set _ _ (.inl a), (hv.set _ _ (.inl (by show gp < lo; omega))).more hlo (Nat.le_refl _), h.own.d01, n0, h.own.d10, n1, own_ne_symm n0, own_ne_symm n1⟩⟩

set_option maxRecDepth 100000 in
set_option maxHeartbeats 8000000 in
theorem l8Part_any (A A1 : Option Addr) (zs cs : List Int) (c c1 bq oq : Nat) (q : Sq) (uq : Value) (w : World) (B : Nat) (hz : Rd w B A (nums .i64 zs)) (hc : Rd w B A1 (nums .i64 cs)) (hb : bq < B) (hs : Sees w B .i64 uq q.places)
    (q0 : w.cell? ⟨bq, oq, none⟩ = some uq) (q1 : w.cell? ⟨bq, oq + 1, none⟩ = some (.int .i64 q.level)) (q2 : w.cell? ⟨bq, oq + 2, none⟩ = some (.int .i64 q.sos)) (q3 : w.cell? ⟨bq, oq + 3, none⟩ = some (.int .i64 q.eos))
    (hB : B ≤ w.heap.size) (hl : zs.length ≤ 600) (hcl : cs.length = zs.length) (hpl : q.places.length ≤ 600) (hp : ∀ j, j < q.places.length → 0 ≤ nth q.places j ∧ (nth q.places j).toNat < zs.length) :
    Calls Tryz.prog 15 #[.slice A zs.length c, .slice A1 cs.length c1, .pointer (some ⟨bq, oq, none⟩)] w fun e w' => (∃ u0 u1 u2, e = .returned (.agg #[u0, u1, u2, .int .i64 q.level, .int .i64 q.sos, .int .i64 q.eos]) ∧ OwnPart w' w.heap.size w'.heap.size 2 u0 u1 u2 (partOf zs cs q)) ∧ Below w.heap.size w w' := by
  obtain ⟨i0, hi, hz0, hz1, hz2⟩ := info_parts info_int64
  obtain ⟨Aq, cq, rfl, hr⟩ := hs
  have HZ := Lib.hid hz
  have HC := Lib.hid hc
  have HR := Lib.hid hr
  have HP := Lib.hid hp
  have Q0 := Lib.hid q0
  have Q1 := Lib.hid q1
  have Q2 := Lib.hid q2
  have Q3 := Lib.hid q3
  have HCL := Lib.hid hcl
  obtain ⟨n, hn⟩ : ∃ n, Hid (n = q.places.length) := ⟨_, Lib.hid rfl⟩
  obtain ⟨ps, hps⟩ : ∃ ps, Hid (ps = q.places) := ⟨_, Lib.hid rfl⟩
  have hn' := Lib.hid (show n = ps.length by rw [hps.out]; exact hn.out)
  have HPn := Lib.hid (show ∀ j, j < n → 0 ≤ nth ps j ∧ (nth ps j).toNat < zs.length by rw [hps.out, hn.out]; exact HP.out)
  have p1 := (Below.refl w.heap.size w).alloc (Nat.le_refl _) (.cells #[.slice none 0 0, .slice none 0 0, .slice none 0 0, .int .i64 0, .int .i64 0, .int .i64 0] 39)
  have k1 := Blk.new w 39 #[.slice none 0 0, .slice none 0 0, .slice none 0 0, .int .i64 0, .int .i64 0, .int .i64 0]
  have r0 : (w.alloc (.cells #[.slice none 0 0, .slice none 0 0, .slice none 0 0, .int .i64 0, .int .i64 0, .int .i64 0] 39)).cell? ⟨bq, oq + 1, none⟩ = some (.int .i64 q.level) := (p1.cell (p := ⟨bq, oq + 1, none⟩) (by show bq < _; omega)).trans q1
  have r1 : (w.alloc (.cells #[.slice none 0 0, .slice none 0 0, .slice none 0 0, .int .i64 0, .int .i64 0, .int .i64 0] 39)).cell? ⟨bq, oq + 2, none⟩ = some (.int .i64 q.sos) := (p1.cell (p := ⟨bq, oq + 2, none⟩) (by show bq < _; omega)).trans q2
  have r2 : (w.alloc (.cells #[.slice none 0 0, .slice none 0 0, .slice none 0 0, .int .i64 0, .int .i64 0, .int .i64 0] 39)).cell? ⟨bq, oq + 3, none⟩ = some (.int .i64 q.eos) := (p1.cell (p := ⟨bq, oq + 3, none⟩) (by show bq < _; omega)).trans q3
  clear hz hc hr hp q0 q1 q2 q3 hcl
  go_enter Tryz.func15, Tryz.ntmps15
  go_wp2_with fail
  generalize hw1 : w.alloc (.cells #[.slice none 0 0, .slice none 0 0, .slice none 0 0, .int .i64 0, .int .i64 0, .int .i64 0] 39) = w1 at *
  have p2 := (Below.refl w1.heap.size w1).alloc (Nat.le_refl _) (.cells #[.slice none 0 0, .slice none 0 0, .slice none 0 0, .int .i64 q.level, .int .i64 q.sos, .int .i64 q.eos] 39)
  have S1 := Lib.hid (show w1.heap.size = w.heap.size + 1 by rw [← hw1]; simp)
  have bw : bq < w1.heap.size := by have := S1.out; omega
  clear hw1
  have ra : (w1.alloc (.cells #[.slice none 0 0, .slice none 0 0, .slice none 0 0, .int .i64 q.level, .int .i64 q.sos, .int .i64 q.eos] 39)).cell? ⟨bq, oq + 1, none⟩ = some (.int .i64 q.level) := (p2.cell (p := ⟨bq, oq + 1, none⟩) bw).trans r0
  have rb : (w1.alloc (.cells #[.slice none 0 0, .slice none 0 0, .slice none 0 0, .int .i64 q.level, .int .i64 q.sos, .int .i64 q.eos] 39)).cell? ⟨bq, oq + 2, none⟩ = some (.int .i64 q.sos) := (p2.cell (p := ⟨bq, oq + 2, none⟩) bw).trans r1
  have rc : (w1.alloc (.cells #[.slice none 0 0, .slice none 0 0, .slice none 0 0, .int .i64 q.level, .int .i64 q.sos, .int .i64 q.eos] 39)).cell? ⟨bq, oq + 3, none⟩ = some (.int .i64 q.eos) := (p2.cell (p := ⟨bq, oq + 3, none⟩) bw).trans r2
  have p3 := (Below.refl w1.heap.size w1).alloc (Nat.le_refl _) (.cells #[.slice none 0 0, .slice none 0 0, .slice none 0 0, .int .i64 0, .int .i64 0, .int .i64 0] 39)
  have ra0 : (w1.alloc (.cells #[.slice none 0 0, .slice none 0 0, .slice none 0 0, .int .i64 0, .int .i64 0, .int .i64 0] 39)).cell? ⟨bq, oq + 1, none⟩ = some (.int .i64 q.level) := (p3.cell (p := ⟨bq, oq + 1, none⟩) bw).trans r0
  have rb0 : (w1.alloc (.cells #[.slice none 0 0, .slice none 0 0, .slice none 0 0, .int .i64 0, .int .i64 0, .int .i64 0] 39)).cell? ⟨bq, oq + 2, none⟩ = some (.int .i64 q.sos) := (p3.cell (p := ⟨bq, oq + 2, none⟩) bw).trans r1
  have rc0 : (w1.alloc (.cells #[.slice none 0 0, .slice none 0 0, .slice none 0 0, .int .i64 0, .int .i64 0, .int .i64 0] 39)).cell? ⟨bq, oq + 3, none⟩ = some (.int .i64 q.eos) := (p3.cell (p := ⟨bq, oq + 3, none⟩) bw).trans r2
  have D0 : Hid (PW (w1.alloc (.cells #[.slice none 0 0, .slice none 0 0, .slice none 0 0, .int .i64 q.level, .int .i64 q.sos, .int .i64 q.eos] 39)).drew w1.heap.size (.slice none 0 0) (.slice none 0 0) (.slice none 0 0) ⟨[], [], [], q.level, q.sos, q.eos⟩) :=
    Lib.hid ⟨Blk.new w1 _ _, ⟨Own.nil _ _ _ _ _, Own.nil _ _ _ _ _, Own.nil _ _ _ _ _, .inl rfl, .inl rfl, .inl rfl, .inl rfl, .inl rfl, .inl rfl⟩⟩
  have P2 := Lib.hid (show Below w1.heap.size w1 (w1.alloc (.cells #[.slice none 0 0, .slice none 0 0, .slice none 0 0, .int .i64 q.level, .int .i64 q.sos, .int .i64 q.eos] 39)).drew from ⟨p2.os, p2.tape, p2.output, p2.size, p2.block⟩)
  have P1 := Lib.hid p1
  have K1 := Lib.hid k1
  clear p1 p2 p3 k1
  go_region_held3 (fun w' => w'.cell? ⟨bq, oq + 1, none⟩ = some (.int .i64 q.level) ∧ w'.cell? ⟨bq, oq + 2, none⟩ = some (.int .i64 q.sos) ∧ w'.cell? ⟨bq, oq + 3, none⟩ = some (.int .i64 q.eos)) (first | exact ⟨r0, r1, r2⟩ | exact ⟨ra0, rb0, rc0⟩ | exact ⟨ra, rb, rc⟩) (fail)
  clear r0 r1 r2 ra rb rc ra0 rb0 rc0
  -- what lies in memory, seen from any later world
  have VQ := Lib.hid (show ∀ w', Below w1.heap.size w1 w' → w'.cell? ⟨bq, oq, none⟩ = some (.slice Aq n cq) from fun w' hb' => by rw [hn.out]; exact (hb'.cell (p := ⟨bq, oq, none⟩) bw).trans ((P1.out.cell (p := ⟨bq, oq, none⟩) (by show bq < _; omega)).trans Q0.out))
  have VS := Lib.hid (show ∀ w', Below w1.heap.size w1 w' → w'.cell? ⟨bq, oq + 2, none⟩ = some (.int .i64 q.sos) from fun w' hb' => (hb'.cell (p := ⟨bq, oq + 2, none⟩) bw).trans ((P1.out.cell (p := ⟨bq, oq + 2, none⟩) (by show bq < _; omega)).trans Q2.out))
  have VP := Lib.hid (show ∀ w', Below w1.heap.size w1 w' → Rd w' B Aq (nums .i64 ps) from fun w' hb' => by rw [hps.out]; exact (HR.out.below P1.out hB).below hb' (by have := S1.out; omega))
  have VZ := Lib.hid (show ∀ w', Below w1.heap.size w1 w' → Rd w' B A (nums .i64 zs) from fun w' hb' => (HZ.out.below P1.out hB).below hb' (by have := S1.out; omega))
  have VC := Lib.hid (show ∀ w', Below w1.heap.size w1 w' → Rd w' B A1 (nums .i64 cs) from fun w' hb' => (HC.out.below P1.out hB).below hb' (by have := S1.out; omega))
  rw [← hn.out] at hpl
  clear HP HR HZ HC Q0 Q1 Q2 Q3
  go_wp2
  generalize (w1.alloc (.cells #[.slice none 0 0, .slice none 0 0, .slice none 0 0, .int .i64 q.level, .int .i64 q.sos, .int .i64 q.eos] 39)).drew = w2 at *
  go_loopw [8] (fun i wr => ∃ (k : Nat) (u0 u1 : Value), k ≤ n ∧ i = .int .i64 k ∧ Hid (PW wr w1.heap.size u0 u1 (.slice none 0 0) ⟨pickN zs (ps.take k), pickN cs (ps.take k), [], q.level, q.sos, q.eos⟩) ∧ Hid (Below w1.heap.size w1 wr)) (fun i _ => n - (intOf i).toNat)
  case atStart => exact ⟨0, _, _, by omega, rfl, D0, P2⟩
  case round =>
    clear D0 P2
    obtain ⟨k, u0, u1, hk, rfl, hd, hbr⟩ := hrel
    have cq0 := VQ.out wr hbr.out
    by_cases hlt : k < n
    · obtain ⟨b, off, rfl, hb', hcc⟩ := (VP.out wr hbr.out).int (by rw [← hn'.out]; omega)
      have hc0 := hcc k (by rw [← hn'.out]; exact hlt)
      obtain ⟨h0, h1⟩ := HPn.out k hlt
      have E0 := Lib.hid (pickN_step zs ps k (by rw [← hn'.out]; exact hlt))
      have E1 := Lib.hid (pickN_step cs ps k (by rw [← hn'.out]; exact hlt))
      obtain ⟨m, hm⟩ : ∃ m : Nat, nth ps k = (m : Int) := ⟨(nth ps k).toNat, by omega⟩
      rw [hm] at hc0 h1 E0 E1
      have HM := Lib.hid hm
      have hmt : ((m : Int)).toNat = m := by omega
      rw [hmt] at h1 E0 E1
      obtain ⟨b2, off2, eA, hb2, hcc2⟩ := (VZ.out wr hbr.out).int (by omega)
      have hc2 := hcc2 m h1
      obtain ⟨x, hx⟩ : ∃ x, Hid (x = nth zs m) := ⟨_, Lib.hid rfl⟩
      obtain ⟨y, hy⟩ : ∃ y, Hid (y = nth cs m) := ⟨_, Lib.hid rfl⟩
      rw [← hx.out] at hc2 E0
      rw [← hy.out] at E1
      obtain ⟨T, hT⟩ : ∃ T, Hid (T = pickN zs (ps.take k)) := ⟨_, Lib.hid rfl⟩
      obtain ⟨F, hF⟩ : ∃ F, Hid (F = pickN cs (ps.take k)) := ⟨_, Lib.hid rfl⟩
      have lT : T.length ≤ 600 := by rw [hT.out, pickN_len, List.length_take]; omega
      have lF : F.length ≤ 600 := by rw [hF.out, pickN_len, List.length_take]; omega
      rw [← hT.out] at hd E0
      rw [← hF.out] at hd E1
      subst eA
      clear hcc hcc2 h0 hm hmt
      obtain ⟨A0, c0, rfl⟩ := hd.out.own.o0.form
      obtain ⟨Au, cu, rfl⟩ := hd.out.own.o1.form
      have f0 := hd.out.blk.cell 0 (u := .slice A0 T.length c0) rfl
      have D8 := Lib.hid (show PW (wr.alloc (.cells #[.int .i64 x] 2)).drew w1.heap.size _ _ _ _ from (hd.out.alloc (.cells #[.int .i64 x] 2)).drew 1)
      have f80 : (wr.alloc (.cells #[.int .i64 x] 2)).drew.cell? ⟨w1.heap.size, 0, none⟩ = some (.slice A0 T.length c0) := D8.out.blk.cell 0 rfl
      have R8 := Lib.hid (show Rd (wr.alloc (.cells #[.int .i64 x] 2)).drew (wr.heap.size + 1) (some ⟨wr.heap.size, 0, none⟩) _ from Rd.lit wr #[.int .i64 x] 2)
      have g8 : w1.heap.size + 1 ≤ (wr.alloc (.cells #[.int .i64 x] 2)).drew.heap.size := D8.out.blk.lt
      have b8 := Lib.hid (hbr.out.alloc hbr.out.size (.cells #[.int .i64 x] 2))
      have tb : (T.length + 1) * 8 ≤ 140737488355328 := by omega
      have tm : T.length + 1 ≤ 140737488355328 := by omega
      go_wp2
      go_region_law (first
        | (refine step_apps (by rfl) _ _ _ (by rfl) (w1.heap.size + 1) Tryz.underlying22 hi hz0 hz1 hz2 rfl (by omega) (by rfl) D8.out.own.o0.1 (by rfl) (m := 1) R8.out rfl (nums_one .i64 [x]) tb tm g8 ?_; intro v' w9 o9 g9 a9
           obtain ⟨A9, c9, rfl⟩ := own_form o9
           have D9 := Lib.hid (PW.app0 (news := [x]) (m := 1) D8.out o9 rfl g9 a9)
           have b9 : Blk w9 w1.heap.size 39 _ := (g9.block w1.heap.size D8.out.blk.lt (by intro e; have := (D8.out.own.o0.lt _ e.symm).1; omega)).trans D8.out.blk
           have f90 := b9.cell 0 (u := .slice A0 T.length c0) rfl
           have ff90 := b9.frozen 0
           have B9 := Lib.hid ((Below.grown (show Below w1.heap.size w1 (wr.alloc (.cells #[.int .i64 x] 2)).drew from ⟨b8.out.os, b8.out.tape, b8.out.output, b8.out.size, b8.out.block⟩) g9 b8.out.size (fun bb hbb => by have := (D8.out.own.o0.lt bb hbb).1; omega)).setCell (p := ⟨w1.heap.size, 0, none⟩) (Nat.le_refl _) (.slice A9 (T.length + 1) c9))
           clear o9 g9 a9 b9))
      all_goals
        clear f0 f80 cq0 hc0 hc2
        go_wp2
        generalize w9.setCell ⟨w1.heap.size, 0, none⟩ (.slice A9 (T.length + 1) c9) = wx at *
        have cq1 := VQ.out wx B9.out
        obtain ⟨b', off', eA, _, hcc⟩ := (VP.out wx B9.out).int (by rw [← hn'.out]; omega)
        cases eA
        have hc0 := hcc k (by rw [← hn'.out]; exact hlt)
        rw [HM.out] at hc0
        obtain ⟨b3, off3, eB, hb3, hcc3⟩ := (VC.out wx B9.out).int (by rw [HCL.out]; omega)
        have h1c := Lib.hid (show m < cs.length by rw [HCL.out]; exact h1)
        have hc3 := hcc3 m h1c.out
        rw [← hy.out] at hc3
        subst eB
        have h1d : m < cs.length := h1c.out
        clear hcc hcc3
        have f1 := D9.out.blk.cell 1 (u := .slice Au F.length cu) rfl
        have D10 := Lib.hid (show PW (wx.alloc (.cells #[.int .i64 y] 2)).drew w1.heap.size _ _ _ _ from (D9.out.alloc (.cells #[.int .i64 y] 2)).drew 1)
        have f101 : (wx.alloc (.cells #[.int .i64 y] 2)).drew.cell? ⟨w1.heap.size, 1, none⟩ = some (.slice Au F.length cu) := D10.out.blk.cell 1 rfl
        have R10 := Lib.hid (show Rd (wx.alloc (.cells #[.int .i64 y] 2)).drew (wx.heap.size + 1) (some ⟨wx.heap.size, 0, none⟩) _ from Rd.lit wx #[.int .i64 y] 2)
        have g10 : w1.heap.size + 1 ≤ (wx.alloc (.cells #[.int .i64 y] 2)).drew.heap.size := D10.out.blk.lt
        have b10 := Lib.hid (B9.out.alloc B9.out.size (.cells #[.int .i64 y] 2))
        have tb : (F.length + 1) * 8 ≤ 140737488355328 := by omega
        have tm : F.length + 1 ≤ 140737488355328 := by omega
        go_region_law (first
          | (refine step_apps (by rfl) _ _ _ (by rfl) (w1.heap.size + 1) Tryz.underlying22 hi hz0 hz1 hz2 rfl (by omega) (by rfl) D10.out.own.o1.1 (by rfl) (m := 1) R10.out rfl (nums_one .i64 [y]) tb tm g10 ?_; intro v' w11 o11 g11 a11
             obtain ⟨A11, c11, rfl⟩ := own_form o11
             have D11 := Lib.hid (PW.app1 (news := [y]) (m := 1) D10.out o11 rfl g11 a11)
             have b11 : Blk w11 w1.heap.size 39 _ := (g11.block w1.heap.size D10.out.blk.lt (by intro e; have := (D10.out.own.o1.lt _ e.symm).1; omega)).trans D10.out.blk
             have f111 := b11.cell 1 (u := .slice Au F.length cu) rfl
             have ff111 := b11.frozen 1
             have B11 := Lib.hid ((Below.grown (show Below w1.heap.size w1 (wx.alloc (.cells #[.int .i64 y] 2)).drew from ⟨b10.out.os, b10.out.tape, b10.out.output, b10.out.size, b10.out.block⟩) g11 b10.out.size (fun bb hbb => by have := (D10.out.own.o1.lt bb hbb).1; omega)).setCell (p := ⟨w1.heap.size, 1, none⟩) (Nat.le_refl _) (.slice A11 (F.length + 1) c11))
             clear o11 g11 a11 b11))
        all_goals
          clear f1 f101 cq1 hc0 hc3
          go_wp2
          go_roundw
          case rel => exact ⟨k + 1, _, _, by omega, by go_num, by rw [E0.out, E1.out]; exact D11, B11⟩
          case measure => first | omega | (simp [intOf]; omega)
    · have e : k = ps.length := by rw [← hn'.out]; omega
      have ET : ps.take k = ps := List.take_of_length_le (by omega)
      rw [ET] at hd
      obtain ⟨T, hT⟩ : ∃ T, Hid (T = pickN zs ps) := ⟨_, Lib.hid rfl⟩
      obtain ⟨F, hF⟩ : ∃ F, Hid (F = pickN cs ps) := ⟨_, Lib.hid rfl⟩
      have lF : F.length ≤ 600 := by rw [hF.out, pickN_len]; omega
      rw [← hT.out, ← hF.out] at hd
      obtain ⟨W, hW⟩ : ∃ W, Hid (W = weakW F q.sos) := ⟨_, Lib.hid rfl⟩
      have EP := Lib.hid (show partOf zs cs q = ⟨T, F, W, q.level, q.sos, q.eos⟩ by rw [hW.out, hT.out, hF.out, hps.out]; rfl)
      obtain ⟨A0, c0, rfl⟩ := hd.out.own.o0.form
      obtain ⟨Au, cu, rfl⟩ := hd.out.own.o1.form
      have cs2 := VS.out wr hbr.out
      have f1 := hd.out.blk.cell 1 (u := .slice Au F.length cu) rfl
      have bsz := hbr.out.size
      have KR := Lib.hid (K1.out.below hbr.out (by have := S1.out; omega))
      have CW := Lib.hid (l6Weak_any (.slice Au F.length cu) F q.sos wr.drew wr.heap.size (hd.out.own.o1.sees.below (drew_below wr) (Nat.le_refl _)) (Nat.le_refl _) lF)
      clear ET e
      go_wp2
      go_region_law (first
        | (refine step_call (by rfl) ?_; go_simp; go_at_call 36; refine CW.out.mono ?_; rintro e w7 ⟨⟨u2, rfl, o7⟩, b7'⟩
           have b7 : Below wr.heap.size wr w7 := ⟨b7'.os, b7'.tape, b7'.output, b7'.size, b7'.block⟩
           rw [← hW.out] at o7
           obtain ⟨A7, c7, rfl⟩ := o7.form
           have D7 := Lib.hid (hd.out.below b7)
           have OW : Own w7 wr.heap.size w7.heap.size 2 .i64 (.slice A7 W.length c7) W := o7
           have D12 := Lib.hid (D7.out.set2 OW hd.out.blk.lt (own_far hd.out.own.o0 OW (Nat.le_refl _)) (own_far hd.out.own.o1 OW (Nat.le_refl _)))
           have f72 := D7.out.blk.cell 2 (u := .slice none 0 0) rfl
           have ff72 := D7.out.blk.frozen 2
           have K12 := Lib.hid (blk_away (KR.out.below b7 KR.out.lt) ⟨w1.heap.size, 2, none⟩ (.slice A7 W.length c7) (by show w.heap.size ≠ w1.heap.size; have := S1.out; omega))
           have B12 := Lib.hid ((below_on hbr.out b7 (Nat.le_refl _)).setCell (p := ⟨w1.heap.size, 2, none⟩) (Nat.le_refl _) (.slice A7 W.length c7))
           clear o7 b7 b7' OW))
      all_goals
        clear f1 cs2
        generalize w7.setCell ⟨w1.heap.size, 2, none⟩ (.slice A7 W.length c7) = wy at *
        have g0 := D12.out.blk.cell 0 (u := .slice A0 T.length c0) rfl
        have g1 := D12.out.blk.cell 1 (u := .slice Au F.length cu) rfl
        have g2 := D12.out.blk.cell 2 (u := .slice A7 W.length c7) rfl
        have g3 := D12.out.blk.cell 3 (u := .int .i64 q.level) rfl
        have g4 := D12.out.blk.cell 4 (u := .int .i64 q.sos) rfl
        have g5 := D12.out.blk.cell 5 (u := .int .i64 q.eos) rfl
        have n0 := K12.out.cell 0 (u := .slice none 0 0) rfl
        have n1 := K12.out.cell 1 (u := .slice none 0 0) rfl
        have n2 := K12.out.cell 2 (u := .slice none 0 0) rfl
        have n3 := K12.out.cell 3 (u := .int .i64 0) rfl
        have n4 := K12.out.cell 4 (u := .int .i64 0) rfl
        have n5 := K12.out.cell 5 (u := .int .i64 0) rfl
        have m0 := K12.out.frozen 0
        have m1 := K12.out.frozen 1
        have m2 := K12.out.frozen 2
        have m3 := K12.out.frozen 3
        have m4 := K12.out.frozen 4
        have m5 := K12.out.frozen 5
        go_wp2
        refine bodyPost_ret (v := .agg #[.slice A0 T.length c0, .slice Au F.length cu, .slice A7 W.length c7, .int .i64 q.level, .int .i64 q.sos, .int .i64 q.eos]) (by simp [results, Tryz.results15, go_sem, n0, n1, n2, n3, n4, n5]) rfl ?_
        rw [EP.out]
        have wlt : w.heap.size < w1.heap.size + 1 := by have := S1.out; omega
        have pw := D12.out.own
        refine ⟨⟨_, _, _, rfl, ⟨?_, ?_, ?_, pw.d01, pw.d02, pw.d10, pw.d12, pw.d20, pw.d21⟩⟩, ?_⟩
        · refine Own.more (lo := w1.heap.size + 1) (hi := wy.heap.size) ?_ (by omega) (by simp)
          iterate 6 refine Own.set ?_ _ _ (.inl wlt)
          exact pw.o0
        · refine Own.more (lo := w1.heap.size + 1) (hi := wy.heap.size) ?_ (by omega) (by simp)
          iterate 6 refine Own.set ?_ _ _ (.inl wlt)
          exact pw.o1
        · refine Own.more (lo := w1.heap.size + 1) (hi := wy.heap.size) ?_ (by omega) (by simp)
          iterate 6 refine Own.set ?_ _ _ (.inl wlt)
          exact pw.o2
        · iterate 6 refine Below.setCell ?_ (by simp) _
          exact P1.out.trans (B12.out.mono (by have := S1.out; omega))
end Go.Proofs.YtcfnhjpmihngdaaGreat
