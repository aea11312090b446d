/- The draws' base: a source of numbers, a number picked, a character, a text. -/
import Derived.Test.YtmcmfklkljehiaaE1
import Derived.Deep.RegionWith
import Derived.Deep.RegionHeld
import Derived.IntWalk
namespace Go.Proofs.Ytmcmfklkljehiaa
open Go.RowKit

/-- the number drawn from bytes at a place, below n -/
def nxt (zs : List Int) (at_ n : Int) : Int :=
  if n < 1 then 0 else if zs.length = 0 then (at_ * 7) % n
  else
    let k : Int := zs.length
    let v0 := nth zs (at_ % k).toNat + at_ / k * 37
    let v1 := if 200 < n then v0 * 251 + nth zs ((at_ + 1) % k).toNat * 13 + at_ else v0
    let v2 := if 60000 < n then v1 * 257 + nth zs ((at_ + 2) % k).toNat else v1
    v2 % n

theorem nxt_range (zs : List Int) (at_ n : Int) (h : 1 ≤ n) : 0 ≤ nxt zs at_ n ∧ nxt zs at_ n < n := by
  unfold nxt
  rw [if_neg (by omega)]
  split
  · exact ⟨Int.emod_nonneg _ (by omega), Int.emod_lt_of_pos _ (by omega)⟩
  · exact ⟨Int.emod_nonneg _ (by omega), Int.emod_lt_of_pos _ (by omega)⟩

theorem Out.drew {lo hi : Nat} {w w' : World} (h : Out lo hi w w') (n : Nat) : Out lo hi w (w'.drewN n) := ⟨h.os, h.tape, h.output, h.size, h.block⟩

set_option maxRecDepth 100000 in
set_option maxHeartbeats 1000000 in
theorem l1Next_any (g : Nat) (A : Option Addr) (c : Nat) (zs : List Int) (at_ n : Int) (w : World) (hs : Blk w g 48 #[.slice A zs.length c, .int .i64 at_]) (hr : Rd w g A (nums .u8 zs)) (hb : ∀ b ∈ zs, isByte b) (hl : zs.length < 2000000) (ha : 0 ≤ at_ ∧ at_ ≤ 1000000) (hn : n ≤ 60000) :
    Calls Try.prog 38 #[.pointer (some ⟨g, 0, none⟩), .int .i64 n] w fun e w' => e = .returned (.int .i64 (nxt zs at_ n)) ∧ Blk w' g 48 #[.slice A zs.length c, .int .i64 (at_ + 1)] ∧ Out g (g + 1) w w' := by
  have HR := Lib.hid hr
  have HB := Lib.hid hb
  have c1 := hs.cell 1 (u := .int .i64 at_) rfl
  have c0 := hs.cell 0 (u := .slice A zs.length c) rfl
  have f1 := hs.frozen 1
  clear hr hb
  have ks := hs.set 1 (.int .i64 (at_ + 1))
  have ou : Out g (g + 1) w (w.setCell ⟨g, 1, none⟩ (.int .i64 (at_ + 1))) := ⟨rfl, rfl, rfl, by simp, fun k hk hn => heap_setCell_other w ⟨g, 1, none⟩ k _ (by simp; omega)⟩
  have KS := Lib.hid (show Blk (w.setCell ⟨g, 1, none⟩ (.int .i64 (at_ + 1))) g 48 #[.slice A zs.length c, .int .i64 (at_ + 1)] by simpa using ks)
  have OU := Lib.hid ou
  clear ks ou
  by_cases n1 : n < 1
  · go_enter Try.func38, Try.ntmps38
    go_wp2
    go_ret
    exact ⟨rint (by unfold nxt; rw [if_pos n1]), KS.out, OU.out⟩
  · by_cases hz : zs.length = 0
    · have z0 : ((zs.length : Int) == 0) = true := by simp [hz]
      have EN : Hid (nxt zs at_ n = at_ * 7 % n) := Lib.hid (by unfold nxt; rw [if_neg n1, if_pos hz])
      clear hz
      go_enter Try.func38, Try.ntmps38
      go_wp2
      go_ret
      exact ⟨rint EN.out.symm, KS.out, OU.out⟩
    · have z0 : ((zs.length : Int) == 0) = false := beq_eq_false_iff_ne.2 (by omega)
      obtain ⟨b, off, rfl, hbg, hcell⟩ := HR.out.int (by omega)
      have m0 := Int.emod_nonneg at_ (show (zs.length : Int) ≠ 0 by omega)
      have m1 := Int.emod_lt_of_pos at_ (show 0 < (zs.length : Int) by omega)
      obtain ⟨r, hr⟩ : ∃ r : Nat, Hid (at_ % (zs.length : Int) = r) := ⟨(at_ % (zs.length : Int)).toNat, Lib.hid (by omega)⟩
      rw [hr.out] at m0 m1
      have d0 := Int.ediv_nonneg ha.1 (show 0 ≤ (zs.length : Int) by omega)
      have d1 : at_ / (zs.length : Int) ≤ at_ := Int.ediv_le_self _ ha.1
      obtain ⟨d, hd⟩ : ∃ d : Int, Hid (at_ / (zs.length : Int) = d) := ⟨_, Lib.hid rfl⟩
      rw [hd.out] at d0 d1
      have rl : r < zs.length := by omega
      have rb := HB.out (nth zs r) (by simp only [nth, List.getElem?_eq_getElem rl, Option.getD_some]; exact List.getElem_mem rl)
      unfold isByte at rb
      have q1 : at_.tmod (zs.length : Int) = (r : Int) := by rw [Int.tmod_eq_emod_of_nonneg ha.1]; exact hr.out
      have q2 : at_.tdiv (zs.length : Int) = d := by rw [Int.tdiv_eq_ediv_of_nonneg ha.1]; exact hd.out
      have w1 : IntKind.i64.wrap (r : Int) = (r : Int) := IntWalk.i64_in _ (by omega)
      have w2 : IntKind.i64.wrap d = d := IntWalk.i64_in _ (by omega)
      have w3 : IntKind.i64.wrap (d * 37) = d * 37 := IntWalk.i64_in _ (by omega)
      have w4 : IntKind.i64.wrap (nth zs r) = nth zs r := IntWalk.i64_in _ (by omega)
      have w5 : IntKind.i64.wrap (nth zs r + d * 37) = nth zs r + d * 37 := IntWalk.i64_in _ (by omega)
      have hx := (World.cell?_setCell_far w ⟨g, 1, none⟩ ⟨b, off + r, none⟩ (.int .i64 (at_ + 1)) (by simp; omega)).trans (hcell r rl)
      have kc0 := KS.out.cell 0 (u := .slice (some ⟨b, off, none⟩) zs.length c) rfl
      have kc1 := KS.out.cell 1 (u := .int .i64 (at_ + 1)) rfl
      clear m0 m1
      by_cases n2 : n ≤ 200
      · have EN : Hid (nxt zs at_ n = (nth zs r + d * 37) % n) := Lib.hid (by unfold nxt; rw [if_neg n1, if_neg hz]; simp only [if_neg (show ¬ 200 < n by omega), if_neg (show ¬ 60000 < n by omega), hr.out, hd.out, Int.toNat_natCast])
        clear hcell
        go_enter Try.func38, Try.ntmps38
        go_wp2
        generalize w.setCell ⟨g, 1, none⟩ (.int .i64 (at_ + 1)) = W at *
        go_quiet (fail)
        go_wp2
        go_ret
        exact ⟨rint EN.out.symm, KS.out, Out.drew OU.out _⟩
      · have m2 := Int.emod_nonneg (at_ + 1) (show (zs.length : Int) ≠ 0 by omega)
        have m3 := Int.emod_lt_of_pos (at_ + 1) (show 0 < (zs.length : Int) by omega)
        obtain ⟨r2, hr2⟩ : ∃ r : Nat, Hid ((at_ + 1) % (zs.length : Int) = r) := ⟨((at_ + 1) % (zs.length : Int)).toNat, Lib.hid (by omega)⟩
        rw [hr2.out] at m2 m3
        have rl2 : r2 < zs.length := by omega
        have rb2 := HB.out (nth zs r2) (by simp only [nth, List.getElem?_eq_getElem rl2, Option.getD_some]; exact List.getElem_mem rl2)
        unfold isByte at rb2
        have q3 : (at_ + 1).tmod (zs.length : Int) = (r2 : Int) := by rw [Int.tmod_eq_emod_of_nonneg (by omega)]; exact hr2.out
        have hx2 := (World.cell?_setCell_far w ⟨g, 1, none⟩ ⟨b, off + r2, none⟩ (.int .i64 (at_ + 1)) (by simp; omega)).trans (hcell r2 rl2)
        have EN : Hid (nxt zs at_ n = ((nth zs r + d * 37) * 251 + nth zs r2 * 13 + at_) % n) := Lib.hid (by unfold nxt; rw [if_neg n1, if_neg hz]; simp only [if_pos (show 200 < n by omega), if_neg (show ¬ 60000 < n by omega), hr.out, hr2.out, hd.out, Int.toNat_natCast])
        have w0 : IntKind.i64.wrap (at_ + 1) = at_ + 1 := IntWalk.i64_in _ (by omega)
        have w6 : IntKind.i64.wrap (r2 : Int) = (r2 : Int) := IntWalk.i64_in _ (by omega)
        have w7 : IntKind.i64.wrap (nth zs r2) = nth zs r2 := IntWalk.i64_in _ (by omega)
        have w8 : IntKind.i64.wrap (nth zs r2 * 13) = nth zs r2 * 13 := IntWalk.i64_in _ (by omega)
        have w9 : IntKind.i64.wrap ((nth zs r + d * 37) * 251) = (nth zs r + d * 37) * 251 := IntWalk.i64_in _ (by omega)
        have w10 : IntKind.i64.wrap ((nth zs r + d * 37) * 251 + nth zs r2 * 13) = (nth zs r + d * 37) * 251 + nth zs r2 * 13 := IntWalk.i64_in _ (by omega)
        have w11 : IntKind.i64.wrap ((nth zs r + d * 37) * 251 + nth zs r2 * 13 + at_) = (nth zs r + d * 37) * 251 + nth zs r2 * 13 + at_ := IntWalk.i64_in _ (by omega)
        have n3 : 200 < n := by omega
        clear hcell m2 m3 n2
        go_enter Try.func38, Try.ntmps38
        go_wp2
        generalize w.setCell ⟨g, 1, none⟩ (.int .i64 (at_ + 1)) = W at *
        go_quiet (fail)
        go_wp2
        go_quiet (fail)
        go_wp2

        go_ret
        exact ⟨rint EN.out.symm, KS.out, Out.drew OU.out _⟩

/-- a source at a place: its block, and what its bytes read -/
def Src (w : World) (g : Nat) (zs : List Int) (at_ : Int) : Prop := ∃ A c, Blk w g 48 #[.slice A zs.length c, .int .i64 at_] ∧ Rd w g A (nums .u8 zs)
theorem Rd.out {w w' : World} {B lo hi : Nat} {A : Option Addr} {xs : List Value} (h : Rd w B A xs) (ho : Out lo hi w w') (hB : B ≤ lo) (hw : B ≤ w.heap.size) : Rd w' B A xs :=
  h.keep fun p hp => by unfold World.cell?; rw [ho.block p.block (by omega) (by omega)]
theorem Src.out {w w' : World} {g lo hi : Nat} {zs : List Int} {at_ : Int} (h : Src w g zs at_) (ho : Out lo hi w w') (hd : g < lo) : Src w' g zs at_ := by
  obtain ⟨A, c, hk, hr⟩ := h
  exact ⟨A, c, hk.out ho (.inl hd), hr.out ho (by omega) (by have := hk.lt; omega)⟩
theorem Src.below {w w' : World} {g : Nat} {zs : List Int} {at_ : Int} (h : Src w g zs at_) (hb : Below w.heap.size w w') : Src w' g zs at_ := by
  obtain ⟨A, c, hk, hr⟩ := h
  exact ⟨A, c, hk.below hb hk.lt, hr.below hb (by have := hk.lt; omega)⟩
theorem Src.lt {w : World} {g : Nat} {zs : List Int} {at_ : Int} (h : Src w g zs at_) : g < w.heap.size := by
  obtain ⟨A, c, hk, hr⟩ := h
  exact hk.lt
theorem next_src (g : Nat) (zs : List Int) (at_ n : Int) (w : World) (hs : Src w g zs at_) (hb : ∀ b ∈ zs, isByte b) (hl : zs.length < 2000000) (ha : 0 ≤ at_ ∧ at_ ≤ 1000000) (hn : n ≤ 60000) :
    Calls Try.prog 38 #[.pointer (some ⟨g, 0, none⟩), .int .i64 n] w fun e w' => e = .returned (.int .i64 (nxt zs at_ n)) ∧ Src w' g zs (at_ + 1) ∧ Out g (g + 1) w w' := by
  obtain ⟨A, c, hk, hr⟩ := hs
  refine (l1Next_any g A c zs at_ n w hk hr hb hl ha hn).mono fun e w' ⟨he, hk', ho⟩ => ⟨he, ⟨A, c, hk', hr.out ho (Nat.le_refl _) (by have := hk.lt; omega)⟩, ho⟩

set_option maxRecDepth 100000 in
set_option maxHeartbeats 400000 in
theorem l1Source_any (A : Option Addr) (c : Nat) (zs : List Int) (w : World) (hr : Rd w w.heap.size A (nums .u8 zs)) :
    Calls Try.prog 29 #[.slice A zs.length c] w fun e w' => e = .returned (.pointer (some ⟨w.heap.size, 0, none⟩)) ∧ Src w' w.heap.size zs 0 ∧ Below w.heap.size w w' := by
  have HR := Lib.hid hr
  clear hr
  have b := (Below.refl w.heap.size w).alloc (Nat.le_refl _) (.cells #[.slice A zs.length c, .int .i64 0] 48)
  go_enter Try.func29, Try.ntmps29
  go_wp2
  go_ret
  exact ⟨rfl, ⟨A, c, Blk.new w _ _, HR.out.below b (Nat.le_refl _)⟩, b⟩

set_option maxRecDepth 100000 in
set_option maxHeartbeats 400000 in
theorem l1Chance_any (g : Nat) (zs : List Int) (at_ n : Int) (w : World) (hs : Src w g zs at_) (hb : ∀ b ∈ zs, isByte b) (hl : zs.length < 2000000) (ha : 0 ≤ at_ ∧ at_ ≤ 1000000) (hn : n ≤ 60000) :
    Calls Try.prog 40 #[.pointer (some ⟨g, 0, none⟩), .int .i64 n] w fun e w' => e = .returned (.bool (nxt zs at_ n == 0)) ∧ Src w' g zs (at_ + 1) ∧ Out g (g + 1) w w' := by
  go_enter Try.func40, Try.ntmps40
  go_wp2_with fail
  refine (next_src g zs at_ n w hs hb hl ha hn).mono ?_
  rintro e w1 ⟨rfl, hs1, o1⟩
  go_wp2
  go_ret
  exact ⟨rfl, hs1, o1⟩

set_option maxRecDepth 100000 in
set_option maxHeartbeats 400000 in
theorem l1Pick_any (g p m : Nat) (T : TypeId) (ls : List Int) (zs : List Int) (at_ : Int) (w : World) (hp : Blk w p T (Array.mk (nums .i64 ls))) (hpg : p ≠ g) (hm : ls.length = m) (hm1 : 1 ≤ m) (hm2 : m ≤ 200) (hs : Src w g zs at_) (hb : ∀ b ∈ zs, isByte b) (hl : zs.length < 2000000) (ha : 0 ≤ at_ ∧ at_ ≤ 1000000) :
    Calls Try.prog 39 #[.pointer (some ⟨g, 0, none⟩), .slice (some ⟨p, 0, none⟩) m m] w fun e w' => e = .returned (.int .i64 (nth ls (nxt zs at_ m).toNat)) ∧ Src w' g zs (at_ + 1) ∧ Out g (g + 1) w w' := by
  have hx := nxt_range zs at_ m (by omega)
  obtain ⟨r, hr⟩ : ∃ r : Nat, Hid (nxt zs at_ m = r) := ⟨(nxt zs at_ m).toNat, Lib.hid (by omega)⟩
  rw [hr.out] at hx
  go_enter Try.func39, Try.ntmps39
  go_wp2_with fail
  refine (next_src g zs at_ m w hs hb hl ha (by omega)).mono ?_
  rintro e w1 ⟨rfl, hs1, o1⟩
  rw [hr.out]
  have e1 := (hp.out o1 (by omega)).cell r (u := .int .i64 (nth ls r)) (by simpa using nums_get .i64 ls r (by omega))
  have i1 : (r : Int) < (m : Int) := hx.2
  go_wp2
  go_ret
  exact ⟨rint (by rw [hr.out, Int.toNat_natCast]), hs1, o1⟩
theorem Out.later {lo hi lo' hi' : Nat} {a b c : World} (h : Out lo hi a b) (k : Out lo' hi' b c) (hl : a.heap.size ≤ lo') : Out lo hi a c :=
  ⟨k.os.trans h.os, k.tape.trans h.tape, k.output.trans h.output, Nat.le_trans h.size k.size, fun i hi hn => (k.block i (Nat.lt_of_lt_of_le hi h.size) (by omega)).trans (h.block i hi hn)⟩
theorem Out.alloc {lo hi : Nat} {a b : World} (h : Out lo hi a b) (o : Obj) : Out lo hi a (b.alloc o) := h.trans (Out.of_below ((Below.refl _ b).alloc (Nat.le_refl _) o))
theorem Src.alloc {w : World} {g : Nat} {zs : List Int} {at_ : Int} (h : Src w g zs at_) (o : Obj) : Src (w.alloc o) g zs at_ := h.below ((Below.refl _ w).alloc (Nat.le_refl _) o)
theorem row_out {w w' : World} {base n : Nat} {e : TypeId} {size : Nat} {v : Value} {xs : List Value} (h : w.ownsRow base e size v n xs) (hg : w.grownBy w' v.ownBlock) : Out base w.heap.size w w' :=
  Out.of_grown hg fun r hr => h.lt r hr

theorem nth_in (ls : List Int) (k : Nat) (h : k < ls.length) : nth ls k ∈ ls := by
  simp only [nth, List.getElem?_eq_getElem h, Option.getD_some]
  exact List.getElem_mem h
theorem chrB_range {c : Int} (h : chrB c = true) : 0 ≤ c ∧ c ≤ 1114111 := by
  unfold chrB at h
  rw [decide_eq_true_eq] at h
  omega
theorem Sees.more {w : World} {B B' : Nat} {kd : IntKind} {v : Value} {zs : List Int} (h : Sees w B kd v zs) (hB : B ≤ B') : Sees w B' kd v zs := by
  obtain ⟨A, c, e, rd⟩ := h
  exact ⟨A, c, e, rd.more hB⟩
def drawL : List Int := [97, 98, 97, 66, 49, 50, 49, 43, 45, 44, 46, 58, 36, 37, 32, 32, 32, 9, 40, 41, 91, 93, 60, 62, 33, 1488, 1489, 1490, 1488, 1575, 1576, 1604, 1604, 1575, 1577, 1569, 1605, 1632, 1633, 769, 1611, 8234, 8235, 8236, 8237, 8238, 8294, 8295, 8296, 8297, 8236, 8297, 8203, 9001, 12296, 12297, 128512, 65533]
theorem pick_in (ls : List Int) (zs : List Int) (at_ : Int) (m : Nat) (hm : ls.length = m) (h1 : 1 ≤ m) : nth ls (nxt zs at_ m).toNat ∈ ls := by
  have := nxt_range zs at_ m (by omega)
  exact nth_in ls _ (by omega)
theorem out_new {w w1 w2 : World} (b : Below w.heap.size w w1) (o : Out w.heap.size (w.heap.size + 1) w1 w2) : Below w.heap.size w w2 := b.trans (o.to_below (Nat.le_refl _) b.size)
end Go.Proofs.Ytmcmfklkljehiaa
