/- Chapter 7's laws: helpers, and the contracts by name. -/
import Derived.Test.YtkkojemnbcddfaaDoorE1
import Derived.Deep.RegionWith
import Derived.Deep.RegionHeld
import Derived.IntWalk
import Derived.Test.YtkkojemnbcddfaaDoorB0
import Derived.Test.YtkkojemnbcddfaaDoorH1
import Derived.Test.YtkkojemnbcddfaaDoorG0
import Derived.Test.YtkkojemnbcddfaaDoorW2
import Derived.Test.YtkkojemnbcddfaaDoorO2
import Derived.Test.YtkkojemnbcddfaaDoorS4
import Derived.Test.YtkkojemnbcddfaaDoorA1
import Derived.Test.YtkkojemnbcddfaaDoorY2
import Derived.Deep.RegionLaw
import Derived.Test.YtkkojemnbcddfaaDoorY4
import Derived.Test.YtkkojemnbcddfaaDoorZ6
import Derived.Test.YtkkojemnbcddfaaDoorY5
import Derived.Test.YtkkojemnbcddfaaDoorZ13
import Derived.Deep.RegionHeld3
namespace Go.Proofs.YtkkojemnbcddfaaDoor
open Go.RowKit

/-- the number drawn from bytes at a place, below n -/
def nxt (zs : List Int) (at_ n : Int) : Int :=
  if n < 1 then 0 else if zs.length = 0 then (at_ * 7) % n
  else
    let k : Int := zs.length
    let v0 := nth zs (at_ % k).toNat + at_ / k * 37
    let v1 := if 200 < n then v0 * 251 + nth zs ((at_ + 1) % k).toNat * 13 + at_ else v0
    let v2 := if 60000 < n then v1 * 257 + nth zs ((at_ + 2) % k).toNat else v1
    v2 % n

theorem nxt_range (zs : List Int) (at_ n : Int) (h : 1 ≤ n) : 0 ≤ nxt zs at_ n ∧ nxt zs at_ n < n := by
  unfold nxt
  rw [if_neg (by omega)]
  split
  · exact ⟨Int.emod_nonneg _ (by omega), Int.emod_lt_of_pos _ (by omega)⟩
  · exact ⟨Int.emod_nonneg _ (by omega), Int.emod_lt_of_pos _ (by omega)⟩

theorem Out.drew {lo hi : Nat} {w w' : World} (h : Out lo hi w w') (n : Nat) : Out lo hi w (w'.drewN n) := ⟨h.os, h.tape, h.output, h.size, h.block⟩

set_option maxRecDepth 100000 in
set_option maxHeartbeats 1000000 in
theorem l1Next_any (g : Nat) (A : Option Addr) (c : Nat) (zs : List Int) (at_ n : Int) (w : World) (hs : Blk w g 75 #[.slice A zs.length c, .int .i64 at_]) (hr : Rd w g A (nums .u8 zs)) (hb : ∀ b ∈ zs, isByte b) (hl : zs.length < 2000000) (ha : 0 ≤ at_ ∧ at_ ≤ 1000000) (hn : n ≤ 60000) :
    Calls Tryd.prog 60 #[.pointer (some ⟨g, 0, none⟩), .int .i64 n] w fun e w' => e = .returned (.int .i64 (nxt zs at_ n)) ∧ Blk w' g 75 #[.slice A zs.length c, .int .i64 (at_ + 1)] ∧ Out g (g + 1) w w' := by
  have HR := Lib.hid hr
  have HB := Lib.hid hb
  have c1 := hs.cell 1 (u := .int .i64 at_) rfl
  have c0 := hs.cell 0 (u := .slice A zs.length c) rfl
  have f1 := hs.frozen 1
  clear hr hb
  have ks := hs.set 1 (.int .i64 (at_ + 1))
  have ou : Out g (g + 1) w (w.setCell ⟨g, 1, none⟩ (.int .i64 (at_ + 1))) := ⟨rfl, rfl, rfl, by simp, fun k hk hn => heap_setCell_other w ⟨g, 1, none⟩ k _ (by simp; omega)⟩
  have KS := Lib.hid (show Blk (w.setCell ⟨g, 1, none⟩ (.int .i64 (at_ + 1))) g 75 #[.slice A zs.length c, .int .i64 (at_ + 1)] by simpa using ks)
  have OU := Lib.hid ou
  clear ks ou
  by_cases n1 : n < 1
  · go_enter Tryd.func60, Tryd.ntmps60
    go_wp2
    go_ret
    exact ⟨rint (by unfold nxt; rw [if_pos n1]), KS.out, OU.out⟩
  · by_cases hz : zs.length = 0
    · have z0 : ((zs.length : Int) == 0) = true := by simp [hz]
      have EN : Hid (nxt zs at_ n = at_ * 7 % n) := Lib.hid (by unfold nxt; rw [if_neg n1, if_pos hz])
      clear hz
      go_enter Tryd.func60, Tryd.ntmps60
      go_wp2
      go_ret
      exact ⟨rint EN.out.symm, KS.out, OU.out⟩
    · have z0 : ((zs.length : Int) == 0) = false := beq_eq_false_iff_ne.2 (by omega)
      obtain ⟨b, off, rfl, hbg, hcell⟩ := HR.out.int (by omega)
      have m0 := Int.emod_nonneg at_ (show (zs.length : Int) ≠ 0 by omega)
      have m1 := Int.emod_lt_of_pos at_ (show 0 < (zs.length : Int) by omega)
      obtain ⟨r, hr⟩ : ∃ r : Nat, Hid (at_ % (zs.length : Int) = r) := ⟨(at_ % (zs.length : Int)).toNat, Lib.hid (by omega)⟩
      rw [hr.out] at m0 m1
      have d0 := Int.ediv_nonneg ha.1 (show 0 ≤ (zs.length : Int) by omega)
      have d1 : at_ / (zs.length : Int) ≤ at_ := Int.ediv_le_self _ ha.1
      obtain ⟨d, hd⟩ : ∃ d : Int, Hid (at_ / (zs.length : Int) = d) := ⟨_, Lib.hid rfl⟩
      rw [hd.out] at d0 d1
      have rl : r < zs.length := by omega
      have rb := HB.out (nth zs r) (by simp only [nth, List.getElem?_eq_getElem rl, Option.getD_some]; exact List.getElem_mem rl)
      unfold isByte at rb
      have q1 : at_.tmod (zs.length : Int) = (r : Int) := by rw [Int.tmod_eq_emod_of_nonneg ha.1]; exact hr.out
      have q2 : at_.tdiv (zs.length : Int) = d := by rw [Int.tdiv_eq_ediv_of_nonneg ha.1]; exact hd.out
      have w1 : IntKind.i64.wrap (r : Int) = (r : Int) := IntWalk.i64_in _ (by omega)
      have w2 : IntKind.i64.wrap d = d := IntWalk.i64_in _ (by omega)
      have w3 : IntKind.i64.wrap (d * 37) = d * 37 := IntWalk.i64_in _ (by omega)
      have w4 : IntKind.i64.wrap (nth zs r) = nth zs r := IntWalk.i64_in _ (by omega)
      have w5 : IntKind.i64.wrap (nth zs r + d * 37) = nth zs r + d * 37 := IntWalk.i64_in _ (by omega)
      have hx := (World.cell?_setCell_far w ⟨g, 1, none⟩ ⟨b, off + r, none⟩ (.int .i64 (at_ + 1)) (by simp; omega)).trans (hcell r rl)
      have kc0 := KS.out.cell 0 (u := .slice (some ⟨b, off, none⟩) zs.length c) rfl
      have kc1 := KS.out.cell 1 (u := .int .i64 (at_ + 1)) rfl
      clear m0 m1
      by_cases n2 : n ≤ 200
      · have EN : Hid (nxt zs at_ n = (nth zs r + d * 37) % n) := Lib.hid (by unfold nxt; rw [if_neg n1, if_neg hz]; simp only [if_neg (show ¬ 200 < n by omega), if_neg (show ¬ 60000 < n by omega), hr.out, hd.out, Int.toNat_natCast])
        clear hcell
        go_enter Tryd.func60, Tryd.ntmps60
        go_wp2
        generalize w.setCell ⟨g, 1, none⟩ (.int .i64 (at_ + 1)) = W at *
        go_quiet (fail)
        go_wp2
        go_ret
        exact ⟨rint EN.out.symm, KS.out, Out.drew OU.out _⟩
      · have m2 := Int.emod_nonneg (at_ + 1) (show (zs.length : Int) ≠ 0 by omega)
        have m3 := Int.emod_lt_of_pos (at_ + 1) (show 0 < (zs.length : Int) by omega)
        obtain ⟨r2, hr2⟩ : ∃ r : Nat, Hid ((at_ + 1) % (zs.length : Int) = r) := ⟨((at_ + 1) % (zs.length : Int)).toNat, Lib.hid (by omega)⟩
        rw [hr2.out] at m2 m3
        have rl2 : r2 < zs.length := by omega
        have rb2 := HB.out (nth zs r2) (by simp only [nth, List.getElem?_eq_getElem rl2, Option.getD_some]; exact List.getElem_mem rl2)
        unfold isByte at rb2
        have q3 : (at_ + 1).tmod (zs.length : Int) = (r2 : Int) := by rw [Int.tmod_eq_emod_of_nonneg (by omega)]; exact hr2.out
        have hx2 := (World.cell?_setCell_far w ⟨g, 1, none⟩ ⟨b, off + r2, none⟩ (.int .i64 (at_ + 1)) (by simp; omega)).trans (hcell r2 rl2)
        have EN : Hid (nxt zs at_ n = ((nth zs r + d * 37) * 251 + nth zs r2 * 13 + at_) % n) := Lib.hid (by unfold nxt; rw [if_neg n1, if_neg hz]; simp only [if_pos (show 200 < n by omega), if_neg (show ¬ 60000 < n by omega), hr.out, hr2.out, hd.out, Int.toNat_natCast])
        have w0 : IntKind.i64.wrap (at_ + 1) = at_ + 1 := IntWalk.i64_in _ (by omega)
        have w6 : IntKind.i64.wrap (r2 : Int) = (r2 : Int) := IntWalk.i64_in _ (by omega)
        have w7 : IntKind.i64.wrap (nth zs r2) = nth zs r2 := IntWalk.i64_in _ (by omega)
        have w8 : IntKind.i64.wrap (nth zs r2 * 13) = nth zs r2 * 13 := IntWalk.i64_in _ (by omega)
        have w9 : IntKind.i64.wrap ((nth zs r + d * 37) * 251) = (nth zs r + d * 37) * 251 := IntWalk.i64_in _ (by omega)
        have w10 : IntKind.i64.wrap ((nth zs r + d * 37) * 251 + nth zs r2 * 13) = (nth zs r + d * 37) * 251 + nth zs r2 * 13 := IntWalk.i64_in _ (by omega)
        have w11 : IntKind.i64.wrap ((nth zs r + d * 37) * 251 + nth zs r2 * 13 + at_) = (nth zs r + d * 37) * 251 + nth zs r2 * 13 + at_ := IntWalk.i64_in _ (by omega)
        have n3 : 200 < n := by omega
        clear hcell m2 m3 n2
        go_enter Tryd.func60, Tryd.ntmps60
        go_wp2
        generalize w.setCell ⟨g, 1, none⟩ (.int .i64 (at_ + 1)) = W at *
        go_quiet (fail)
        go_wp2
        go_quiet (fail)
        go_wp2

        go_ret
        exact ⟨rint EN.out.symm, KS.out, Out.drew OU.out _⟩

/-- a source at a place: its block, and what its bytes read -/
def Src (w : World) (g : Nat) (zs : List Int) (at_ : Int) : Prop := ∃ A c, Blk w g 75 #[.slice A zs.length c, .int .i64 at_] ∧ Rd w g A (nums .u8 zs)
theorem Rd.out {w w' : World} {B lo hi : Nat} {A : Option Addr} {xs : List Value} (h : Rd w B A xs) (ho : Out lo hi w w') (hB : B ≤ lo) (hw : B ≤ w.heap.size) : Rd w' B A xs :=
  h.keep fun p hp => by unfold World.cell?; rw [ho.block p.block (by omega) (by omega)]
theorem Src.out {w w' : World} {g lo hi : Nat} {zs : List Int} {at_ : Int} (h : Src w g zs at_) (ho : Out lo hi w w') (hd : g < lo) : Src w' g zs at_ := by
  obtain ⟨A, c, hk, hr⟩ := h
  exact ⟨A, c, hk.out ho (.inl hd), hr.out ho (by omega) (by have := hk.lt; omega)⟩
theorem Src.below {w w' : World} {g : Nat} {zs : List Int} {at_ : Int} (h : Src w g zs at_) (hb : Below w.heap.size w w') : Src w' g zs at_ := by
  obtain ⟨A, c, hk, hr⟩ := h
  exact ⟨A, c, hk.below hb hk.lt, hr.below hb (by have := hk.lt; omega)⟩
theorem Src.lt {w : World} {g : Nat} {zs : List Int} {at_ : Int} (h : Src w g zs at_) : g < w.heap.size := by
  obtain ⟨A, c, hk, hr⟩ := h
  exact hk.lt
theorem next_src (g : Nat) (zs : List Int) (at_ n : Int) (w : World) (hs : Src w g zs at_) (hb : ∀ b ∈ zs, isByte b) (hl : zs.length < 2000000) (ha : 0 ≤ at_ ∧ at_ ≤ 1000000) (hn : n ≤ 60000) :
    Calls Tryd.prog 60 #[.pointer (some ⟨g, 0, none⟩), .int .i64 n] w fun e w' => e = .returned (.int .i64 (nxt zs at_ n)) ∧ Src w' g zs (at_ + 1) ∧ Out g (g + 1) w w' := by
  obtain ⟨A, c, hk, hr⟩ := hs
  refine (l1Next_any g A c zs at_ n w hk hr hb hl ha hn).mono fun e w' ⟨he, hk', ho⟩ => ⟨he, ⟨A, c, hk', hr.out ho (Nat.le_refl _) (by have := hk.lt; omega)⟩, ho⟩

set_option maxRecDepth 100000 in
set_option maxHeartbeats 400000 in
theorem l1Source_any (A : Option Addr) (c : Nat) (zs : List Int) (w : World) (hr : Rd w w.heap.size A (nums .u8 zs)) :
    Calls Tryd.prog 34 #[.slice A zs.length c] w fun e w' => e = .returned (.pointer (some ⟨w.heap.size, 0, none⟩)) ∧ Src w' w.heap.size zs 0 ∧ Below w.heap.size w w' := by
  have HR := Lib.hid hr
  clear hr
  have b := (Below.refl w.heap.size w).alloc (Nat.le_refl _) (.cells #[.slice A zs.length c, .int .i64 0] 75)
  go_enter Tryd.func34, Tryd.ntmps34
  go_wp2
  go_ret
  exact ⟨rfl, ⟨A, c, Blk.new w _ _, HR.out.below b (Nat.le_refl _)⟩, b⟩

set_option maxRecDepth 100000 in
set_option maxHeartbeats 400000 in
theorem l1Pick_any (g p m : Nat) (T : TypeId) (ls : List Int) (zs : List Int) (at_ : Int) (w : World) (hp : Blk w p T (Array.mk (nums .i64 ls))) (hpg : p ≠ g) (hm : ls.length = m) (hm1 : 1 ≤ m) (hm2 : m ≤ 200) (hs : Src w g zs at_) (hb : ∀ b ∈ zs, isByte b) (hl : zs.length < 2000000) (ha : 0 ≤ at_ ∧ at_ ≤ 1000000) :
    Calls Tryd.prog 61 #[.pointer (some ⟨g, 0, none⟩), .slice (some ⟨p, 0, none⟩) m m] w fun e w' => e = .returned (.int .i64 (nth ls (nxt zs at_ m).toNat)) ∧ Src w' g zs (at_ + 1) ∧ Out g (g + 1) w w' := by
  have hx := nxt_range zs at_ m (by omega)
  obtain ⟨r, hr⟩ : ∃ r : Nat, Hid (nxt zs at_ m = r) := ⟨(nxt zs at_ m).toNat, Lib.hid (by omega)⟩
  rw [hr.out] at hx
  go_enter Tryd.func61, Tryd.ntmps61
  go_wp2_with fail
  refine (next_src g zs at_ m w hs hb hl ha (by omega)).mono ?_
  rintro e w1 ⟨rfl, hs1, o1⟩
  rw [hr.out]
  have e1 := (hp.out o1 (by omega)).cell r (u := .int .i64 (nth ls r)) (by simpa using nums_get .i64 ls r (by omega))
  have i1 : (r : Int) < (m : Int) := hx.2
  go_wp2
  go_ret
  exact ⟨rint (by rw [hr.out, Int.toNat_natCast]), hs1, o1⟩
theorem Out.later {lo hi lo' hi' : Nat} {a b c : World} (h : Out lo hi a b) (k : Out lo' hi' b c) (hl : a.heap.size ≤ lo') : Out lo hi a c :=
  ⟨k.os.trans h.os, k.tape.trans h.tape, k.output.trans h.output, Nat.le_trans h.size k.size, fun i hi hn => (k.block i (Nat.lt_of_lt_of_le hi h.size) (by omega)).trans (h.block i hi hn)⟩
theorem Out.alloc {lo hi : Nat} {a b : World} (h : Out lo hi a b) (o : Obj) : Out lo hi a (b.alloc o) := h.trans (Out.of_below ((Below.refl _ b).alloc (Nat.le_refl _) o))
theorem Src.alloc {w : World} {g : Nat} {zs : List Int} {at_ : Int} (h : Src w g zs at_) (o : Obj) : Src (w.alloc o) g zs at_ := h.below ((Below.refl _ w).alloc (Nat.le_refl _) o)
theorem row_out {w w' : World} {base n : Nat} {e : TypeId} {size : Nat} {v : Value} {xs : List Value} (h : w.ownsRow base e size v n xs) (hg : w.grownBy w' v.ownBlock) : Out base w.heap.size w w' :=
  Out.of_grown hg fun r hr => h.lt r hr

theorem nth_in (ls : List Int) (k : Nat) (h : k < ls.length) : nth ls k ∈ ls := by
  simp only [nth, List.getElem?_eq_getElem h, Option.getD_some]
  exact List.getElem_mem h
theorem chrB_range {c : Int} (h : chrB c = true) : 0 ≤ c ∧ c ≤ 1114111 := by
  unfold chrB at h
  rw [decide_eq_true_eq] at h
  omega
theorem Sees.more {w : World} {B B' : Nat} {kd : IntKind} {v : Value} {zs : List Int} (h : Sees w B kd v zs) (hB : B ≤ B') : Sees w B' kd v zs := by
  obtain ⟨A, c, e, rd⟩ := h
  exact ⟨A, c, e, rd.more hB⟩
def drawL : List Int := [97, 98, 97, 66, 49, 50, 49, 43, 45, 44, 46, 58, 36, 37, 32, 32, 32, 9, 40, 41, 91, 93, 60, 62, 33, 1488, 1489, 1490, 1488, 1575, 1576, 1604, 1604, 1575, 1577, 1569, 1605, 1632, 1633, 769, 1611, 8234, 8235, 8236, 8237, 8238, 8294, 8295, 8296, 8297, 8236, 8297, 8203, 9001, 12296, 12297, 128512, 65533]
theorem pick_in (ls : List Int) (zs : List Int) (at_ : Int) (m : Nat) (hm : ls.length = m) (h1 : 1 ≤ m) : nth ls (nxt zs at_ m).toNat ∈ ls := by
  have := nxt_range zs at_ m (by omega)
  exact nth_in ls _ (by omega)
theorem out_new {w w1 w2 : World} (b : Below w.heap.size w w1) (o : Out w.heap.size (w.heap.size + 1) w1 w2) : Below w.heap.size w w2 := b.trans (o.to_below (Nat.le_refl _) b.size)
end Go.Proofs.YtkkojemnbcddfaaDoor

namespace Go.Proofs.YtkkojemnbcddfaaDoor
open Go.RowKit

/-- what a cell that is a slice of numbers holds -/
structure Cont where
  t : TypeId
  kd : IntKind
  zs : List Int

/-- v is a slice of n elements of 'size' cells each, the call's own; its cells are us; those that cs names are slices of the call's own, no two in one block -/
structure OwnC (w : World) (lo hi : Nat) (tt : TypeId) (size : Nat) (v : Value) (n : Nat) (us : List Value) (cs : Nat → Option Cont) : Prop where
  row : w.ownsRow lo tt size v n us
  top : ∀ g, v.ownBlock = some g → g < hi
  each : ∀ k c, cs k = some c → ∃ u, us[k]? = some u ∧ Own w lo hi c.t c.kd u c.zs
  bare : ∀ (k : Nat) (u : Value), us[k]? = some u → cs k = none → u.ownBlock = none
  apart : ∀ (i j : Nat) (u u' : Value), i < j → us[i]? = some u → us[j]? = some u' → u.ownBlock = none ∨ u.ownBlock ≠ u'.ownBlock
  off : ∀ (k : Nat) (u : Value), us[k]? = some u → u.ownBlock = none ∨ u.ownBlock ≠ v.ownBlock

theorem ownsRow_keep {w w' : World} {base n : Nat} {e : TypeId} {size : Nat} {v : Value} {xs : List Value} (h : w.ownsRow base e size v n xs) (hk : ∀ g, v.ownBlock = some g → w'.heap[g]? = w.heap[g]?) : w'.ownsRow base e size v n xs := by
  refine ⟨h.1, ?_⟩
  rcases h.2 with hn | ⟨g, cap, cur, rfl, hb, hg, rest⟩
  · exact .inl hn
  · exact .inr ⟨g, cap, cur, rfl, hb, by rw [hk g rfl]; exact hg, rest⟩

section
variable {w w' : World} {lo hi : Nat} {tt : TypeId} {size : Nat} {v : Value} {n : Nat} {us : List Value} {cs : Nat → Option Cont}

theorem OwnC.lts (h : OwnC w lo hi tt size v n us cs) : ∀ (k : Nat) (u : Value) (g : Nat), us[k]? = some u → u.ownBlock = some g → lo ≤ g ∧ g < hi ∧ g < w.heap.size := by
  intro k u g hu hg
  cases hc : cs k with
  | none => rw [h.bare k u hu hc] at hg; cases hg
  | some c =>
    obtain ⟨u', h1, h2⟩ := h.each k c hc
    rw [hu] at h1
    injection h1 with h1
    subst h1
    have := h2.lt g hg
    have := h2.1.lt g hg
    omega
theorem OwnC.vlt (h : OwnC w lo hi tt size v n us cs) : ∀ g, v.ownBlock = some g → lo ≤ g ∧ g < hi ∧ g < w.heap.size := fun g hg => ⟨(h.row.lt g hg).1, h.top g hg, (h.row.lt g hg).2⟩
theorem OwnC.keep (h : OwnC w lo hi tt size v n us cs) (hk : ∀ k, k < w.heap.size → lo ≤ k → k < hi → w'.heap[k]? = w.heap[k]?) : OwnC w' lo hi tt size v n us cs :=
  ⟨ownsRow_keep h.row fun g hg => hk g (h.row.lt g hg).2 (h.row.lt g hg).1 (h.top g hg), h.top,
   fun k c hc => by obtain ⟨u, h1, h2⟩ := h.each k c hc; exact ⟨u, h1, h2.keep hk⟩, h.bare, h.apart, h.off⟩
theorem OwnC.below {B : Nat} (h : OwnC w lo hi tt size v n us cs) (hb : Below B w w') (hB : hi ≤ B) : OwnC w' lo hi tt size v n us cs :=
  h.keep fun k _ _ hk => hb.block k (Nat.lt_of_lt_of_le hk hB)
theorem OwnC.out {lo' hi' : Nat} (h : OwnC w lo hi tt size v n us cs) (hb : Out lo' hi' w w') (hd : hi ≤ lo' ∨ hi' ≤ lo) : OwnC w' lo hi tt size v n us cs :=
  h.keep fun k hk h1 h2 => hb.block k hk (by omega)
theorem OwnC.alloc (h : OwnC w lo hi tt size v n us cs) (o : Obj) : OwnC (w.alloc o) lo hi tt size v n us cs := h.keep fun k hk _ _ => Below.heap_alloc w o k hk
theorem OwnC.set (h : OwnC w lo hi tt size v n us cs) (p : Addr) (u : Value) (hp : p.block < lo ∨ hi ≤ p.block) : OwnC (w.setCell p u) lo hi tt size v n us cs :=
  h.keep fun k _ h1 h2 => heap_setCell_other w p k u (by omega)
theorem OwnC.more {lo' hi' : Nat} (h : OwnC w lo hi tt size v n us cs) (h1 : lo' ≤ lo) (h2 : hi ≤ hi') : OwnC w lo' hi' tt size v n us cs :=
  ⟨own_more h.row h1, fun g hg => Nat.lt_of_lt_of_le (h.top g hg) h2, fun k c hc => by obtain ⟨u, a, b⟩ := h.each k c hc; exact ⟨u, a, b.more h1 h2⟩, h.bare, h.apart, h.off⟩
theorem OwnC.drew (h : OwnC w lo hi tt size v n us cs) (k : Nat) : OwnC (w.drewN k) lo hi tt size v n us cs := h.keep fun _ _ _ _ => rfl
/-- another block has turned -/
theorem OwnC.grown {b : Option Nat} (h : OwnC w lo hi tt size v n us cs) (hg : w.grownBy w' b) (hv : v.ownBlock = none ∨ v.ownBlock ≠ b) (hu : ∀ (k : Nat) (u : Value), us[k]? = some u → u.ownBlock = none ∨ u.ownBlock ≠ b) : OwnC w' lo hi tt size v n us cs :=
  ⟨h.row.kept hg hv, h.top, fun k c hc => by
    obtain ⟨u, a, o⟩ := h.each k c hc
    refine ⟨u, a, ⟨o.1.kept hg (hu k u a), o.2⟩⟩, h.bare, h.apart, h.off⟩
theorem OwnC.nil (w : World) (lo hi : Nat) (tt : TypeId) (size : Nat) : OwnC w lo hi tt size (.slice none 0 0) 0 [] (fun _ => none) :=
  ⟨World.ownsRow_nil _ _ _ _, by simp [Value.ownBlock], by simp, by simp, by simp, by simp⟩
/-- one of the slices in it has been written -/
theorem OwnC.turn (h : OwnC w lo hi tt size v n us cs) {k : Nat} {c : Cont} {u : Value} {ys : List Int} (hc : cs k = some c) (hu : us[k]? = some u) (hg : w.grownBy w' u.ownBlock) (ho : Own w' lo hi c.t c.kd u ys) :
    OwnC w' lo hi tt size v n us (fun j => if j = k then some { c with zs := ys } else cs j) := by
  have hne : ∀ (j : Nat) (u' : Value), j ≠ k → us[j]? = some u' → u'.ownBlock = none ∨ u'.ownBlock ≠ u.ownBlock := by
    intro j u' hj hu'
    rcases Nat.lt_or_gt_of_ne hj with hlt | hgt
    · exact h.apart j k u' u hlt hu' hu
    · exact own_ne_symm (h.apart k j u u' hgt hu hu')
  refine ⟨h.row.kept hg (own_ne_symm (h.off k u hu)), h.top, ?_, ?_, h.apart, h.off⟩
  · intro j c' hj
    by_cases e : j = k
    · subst e
      rw [if_pos rfl] at hj
      injection hj with hj
      subst hj
      exact ⟨u, hu, ho⟩
    · rw [if_neg e] at hj
      obtain ⟨u', h1, h2⟩ := h.each j c' hj
      exact ⟨u', h1, ⟨h2.1.kept hg (hne j u' e h1), h2.2⟩⟩
  · intro j u' hu' hj
    by_cases e : j = k
    · rw [if_pos e] at hj; cases hj
    · rw [if_neg e] at hj; exact h.bare j u' hu' hj
/-- elements put behind -/
theorem OwnC.push (h : OwnC w lo hi tt size v n us cs) {v' : Value} {m : Nat} {news : List Value} {cn : Nat → Option Cont} (hrow : w'.ownsRow lo tt size v' (n + m) (us ++ news)) (hg : w.grownBy w' v.ownBlock)
    (hv : v'.ownBlock = v.ownBlock ∨ v'.ownBlock = some w.heap.size) (hhi : hi ≤ w.heap.size)
    (hn : ∀ k c, cn k = some c → ∃ u, news[k]? = some u ∧ Own w lo hi c.t c.kd u c.zs) (hb : ∀ (k : Nat) (u : Value), news[k]? = some u → cn k = none → u.ownBlock = none)
    (a1 : ∀ (i j : Nat) (u u' : Value), i < j → news[i]? = some u → news[j]? = some u' → u.ownBlock = none ∨ u.ownBlock ≠ u'.ownBlock)
    (a2 : ∀ (i j : Nat) (u u' : Value), us[i]? = some u → news[j]? = some u' → u.ownBlock = none ∨ u.ownBlock ≠ u'.ownBlock)
    (a3 : ∀ (k : Nat) (u : Value), news[k]? = some u → u.ownBlock = none ∨ u.ownBlock ≠ v.ownBlock) :
    OwnC w' lo w'.heap.size tt size v' (n + m) (us ++ news) (fun k => if k < us.length then cs k else cn (k - us.length)) := by
  have hsz := hg.size
  have nlt : ∀ (k : Nat) (u : Value) (g : Nat), news[k]? = some u → u.ownBlock = some g → g < hi := by
    intro k u g hu hgb
    cases hc : cn k with
    | none => rw [hb k u hu hc] at hgb; cases hgb
    | some c =>
      obtain ⟨u', h1, h2⟩ := hn k c hc
      rw [hu] at h1
      injection h1 with h1
      subst h1
      exact h2.2 g hgb
  have get : ∀ (k : Nat) (u : Value), (us ++ news)[k]? = some u → (k < us.length ∧ us[k]? = some u) ∨ (us.length ≤ k ∧ news[k - us.length]? = some u) := by
    intro k u hu
    by_cases hk : k < us.length
    · rw [List.getElem?_append_left hk] at hu; exact .inl ⟨hk, hu⟩
    · rw [List.getElem?_append_right (by omega)] at hu; exact .inr ⟨by omega, hu⟩
  refine ⟨hrow, fun g hgb => (hrow.lt g hgb).2, ?_, ?_, ?_, ?_⟩
  · intro k c hc
    by_cases hk : k < us.length
    · simp only [hk, if_true] at hc
      obtain ⟨u, h1, h2⟩ := h.each k c hc
      exact ⟨u, by rw [List.getElem?_append_left hk]; exact h1, ⟨h2.1.kept hg (h.off k u h1), fun g hgb => by have := h2.2 g hgb; omega⟩⟩
    · simp only [hk, if_false] at hc
      obtain ⟨u, h1, h2⟩ := hn _ c hc
      exact ⟨u, by rw [List.getElem?_append_right (by omega)]; exact h1, ⟨h2.1.kept hg (a3 _ u h1), fun g hgb => by have := h2.2 g hgb; omega⟩⟩
  · intro k u hu hc
    rcases get k u hu with ⟨hk, h1⟩ | ⟨hk, h1⟩
    · simp only [hk, if_true] at hc; exact h.bare k u h1 hc
    · have hk' : ¬ k < us.length := by omega
      simp only [hk', if_false] at hc; exact hb _ u h1 hc
  · intro i j u u' hij hu hu'
    rcases get i u hu with ⟨hi1, g1⟩ | ⟨hi1, g1⟩
    · rcases get j u' hu' with ⟨hj, g2⟩ | ⟨hj, g2⟩
      · exact h.apart i j u u' hij g1 g2
      · exact a2 i _ u u' g1 g2
    · rcases get j u' hu' with ⟨hj, g2⟩ | ⟨hj, g2⟩
      · omega
      · exact a1 _ _ u u' (by omega) g1 g2
  · intro k u hu
    have hlt : ∀ g, u.ownBlock = some g → g < hi := by
      intro g hgb
      rcases get k u hu with ⟨hk, h1⟩ | ⟨hk, h1⟩
      · exact (h.lts k u g h1 hgb).2.1
      · exact nlt _ u g h1 hgb
    by_cases hx : u.ownBlock = none
    · exact .inl hx
    · right
      rcases hv with e | e
      · rw [e]
        rcases get k u hu with ⟨hk, h1⟩ | ⟨hk, h1⟩
        · exact (h.off k u h1).resolve_left hx
        · exact (a3 _ u h1).resolve_left hx
      · intro e2
        rw [e] at e2
        have := hlt _ e2
        omega
end

/-- v reads as cells us; those that cs names are slices that read -/
def SeesC (w : World) (B : Nat) (size : Nat) (v : Value) (n : Nat) (us : List Value) (cs : Nat → Option Cont) : Prop :=
  (∃ A c, v = .slice A n c ∧ Rd w B A us) ∧ us.length = n * size ∧ ∀ k c, cs k = some c → ∃ u, us[k]? = some u ∧ Sees w B c.kd u c.zs
section
variable {w w' : World} {B size n : Nat} {v : Value} {us : List Value} {cs : Nat → Option Cont}
theorem SeesC.keep (h : SeesC w B size v n us cs) (hk : ∀ k, k < B → w'.heap[k]? = w.heap[k]?) : SeesC w' B size v n us cs := by
  obtain ⟨⟨A, c, rfl, hr⟩, hl, he⟩ := h
  refine ⟨⟨A, c, rfl, hr.keep fun p hp => by unfold World.cell?; rw [hk p.block hp]⟩, hl, fun k c hc => ?_⟩
  obtain ⟨u, h1, h2⟩ := he k c hc
  exact ⟨u, h1, h2.keep hk⟩
theorem SeesC.below {C : Nat} (h : SeesC w B size v n us cs) (hb : Below C w w') (hB : B ≤ C) : SeesC w' B size v n us cs := h.keep fun k hk => hb.block k (Nat.lt_of_lt_of_le hk hB)
theorem SeesC.out {lo hi : Nat} (h : SeesC w B size v n us cs) (hb : Out lo hi w w') (hB : B ≤ lo) (hw : B ≤ w.heap.size) : SeesC w' B size v n us cs := h.keep fun k hk => hb.block k (by omega) (by omega)
theorem SeesC.alloc (h : SeesC w B size v n us cs) (hB : B ≤ w.heap.size) (o : Obj) : SeesC (w.alloc o) B size v n us cs := h.keep fun k hk => Below.heap_alloc w o k (Nat.lt_of_lt_of_le hk hB)
theorem SeesC.drew (h : SeesC w B size v n us cs) (k : Nat) : SeesC (w.drewN k) B size v n us cs := h
theorem OwnC.sees {lo hi : Nat} {tt : TypeId} (h : OwnC w lo hi tt size v n us cs) : SeesC w hi size v n us cs := by
  obtain ⟨A, c, rfl⟩ := own_form h.row
  refine ⟨⟨A, c, rfl, ?_⟩, h.row.1, fun k c hc => ?_⟩
  · intro k u hu
    obtain ⟨b, off, rfl, hb, hc⟩ := Rd.of h.row k u hu
    exact ⟨b, off, rfl, h.top b rfl, hc⟩
  · obtain ⟨u, h1, h2⟩ := h.each k c hc
    exact ⟨u, h1, h2.sees⟩
end

/-! slices of slices of numbers -/
def contsL (t : TypeId) (kd : IntKind) (zss : List (List Int)) : Nat → Option Cont := fun k => zss[k]?.map fun zs => ⟨t, kd, zs⟩
/-- an element, closed to simp -/
def nthL (zss : List (List Int)) (k : Nat) : List Int := zss[k]?.getD []
theorem nthL_get (zss : List (List Int)) (k : Nat) (h : k < zss.length) : zss[k]? = some (nthL zss k) := by simp [nthL, List.getElem?_eq_getElem h]
theorem contsL_get (t : TypeId) (kd : IntKind) (zss : List (List Int)) (k : Nat) (h : k < zss.length) : contsL t kd zss k = some ⟨t, kd, nthL zss k⟩ := by
  unfold contsL; rw [nthL_get zss k h]; rfl
theorem contsL_none (t : TypeId) (kd : IntKind) (zss : List (List Int)) (k : Nat) (h : zss.length ≤ k) : contsL t kd zss k = none := by
  unfold contsL; rw [List.getElem?_eq_none h]; rfl
theorem contsL_app (t : TypeId) (kd : IntKind) (zss : List (List Int)) (zs : List Int) (l : Nat) (hl : l = zss.length) :
    (fun k => if k < l then contsL t kd zss k else contsL t kd [zs] (k - l)) = contsL t kd (zss ++ [zs]) := by
  subst hl
  funext k
  by_cases hk : k < zss.length
  · rw [if_pos hk, contsL_get _ _ _ _ hk]
    unfold contsL
    rw [List.getElem?_append_left hk, nthL_get _ _ hk]; rfl
  · rw [if_neg hk]
    unfold contsL
    rw [List.getElem?_append_right (by omega)]
theorem contsL_set (t : TypeId) (kd : IntKind) (zss : List (List Int)) (k : Nat) (ys : List Int) (hk : k < zss.length) :
    (fun j => if j = k then some { (⟨t, kd, nthL zss k⟩ : Cont) with zs := ys } else contsL t kd zss j) = contsL t kd (zss.set k ys) := by
  funext j
  by_cases e : j = k
  · subst e
    rw [if_pos rfl]
    unfold contsL
    rw [List.getElem?_set_self hk]; rfl
  · rw [if_neg e]
    unfold contsL
    rw [List.getElem?_set_ne (by omega)]

/-- v is a slice of slices of numbers, all the call's own, no two in one block -/
def OwnSS (w : World) (lo hi : Nat) (tt t : TypeId) (kd : IntKind) (v : Value) (zss : List (List Int)) : Prop := ∃ us, OwnC w lo hi tt 1 v zss.length us (contsL t kd zss)
def SeesSS (w : World) (B : Nat) (kd : IntKind) (v : Value) (zss : List (List Int)) : Prop := ∃ us, SeesC w B 1 v zss.length us (contsL 0 kd zss)
section
variable {w w' : World} {lo hi B : Nat} {tt t : TypeId} {kd : IntKind} {v : Value} {zss : List (List Int)}
theorem OwnSS.form (h : OwnSS w lo hi tt t kd v zss) : ∃ A c, v = .slice A zss.length c := by obtain ⟨us, h⟩ := h; exact own_form h.row
theorem OwnSS.nil (w : World) (lo hi : Nat) (tt t : TypeId) (kd : IntKind) : OwnSS w lo hi tt t kd (.slice none 0 0) [] := ⟨[], by
  have := OwnC.nil w lo hi tt 1
  exact this⟩
theorem OwnSS.vlt (h : OwnSS w lo hi tt t kd v zss) : ∀ g, v.ownBlock = some g → lo ≤ g ∧ g < hi := by obtain ⟨us, h⟩ := h; exact fun g hg => ⟨(h.vlt g hg).1, (h.vlt g hg).2.1⟩
theorem OwnSS.below {C : Nat} (h : OwnSS w lo hi tt t kd v zss) (hb : Below C w w') (hB : hi ≤ C) : OwnSS w' lo hi tt t kd v zss := by obtain ⟨us, h⟩ := h; exact ⟨us, h.below hb hB⟩
theorem OwnSS.out {lo' hi' : Nat} (h : OwnSS w lo hi tt t kd v zss) (hb : Out lo' hi' w w') (hd : hi ≤ lo' ∨ hi' ≤ lo) : OwnSS w' lo hi tt t kd v zss := by obtain ⟨us, h⟩ := h; exact ⟨us, h.out hb hd⟩
theorem OwnSS.alloc (h : OwnSS w lo hi tt t kd v zss) (o : Obj) : OwnSS (w.alloc o) lo hi tt t kd v zss := by obtain ⟨us, h⟩ := h; exact ⟨us, h.alloc o⟩
theorem OwnSS.set (h : OwnSS w lo hi tt t kd v zss) (p : Addr) (u : Value) (hp : p.block < lo ∨ hi ≤ p.block) : OwnSS (w.setCell p u) lo hi tt t kd v zss := by obtain ⟨us, h⟩ := h; exact ⟨us, h.set p u hp⟩
theorem OwnSS.more {lo' hi' : Nat} (h : OwnSS w lo hi tt t kd v zss) (h1 : lo' ≤ lo) (h2 : hi ≤ hi') : OwnSS w lo' hi' tt t kd v zss := by obtain ⟨us, h⟩ := h; exact ⟨us, h.more h1 h2⟩
theorem OwnSS.keep (h : OwnSS w lo hi tt t kd v zss) (hk : ∀ k, k < w.heap.size → lo ≤ k → k < hi → w'.heap[k]? = w.heap[k]?) : OwnSS w' lo hi tt t kd v zss := by obtain ⟨us, h⟩ := h; exact ⟨us, h.keep hk⟩
theorem OwnSS.sees (h : OwnSS w lo hi tt t kd v zss) : SeesSS w hi kd v zss := by
  obtain ⟨us, h⟩ := h
  obtain ⟨a, b, c⟩ := h.sees
  refine ⟨us, a, b, fun k c' hc => ?_⟩
  have hk : k < zss.length := by
    apply Classical.byContradiction; intro hn
    rw [contsL_none _ _ _ _ (by omega)] at hc; cases hc
  rw [contsL_get _ _ _ _ hk] at hc
  injection hc with hc
  subst hc
  obtain ⟨u, h1, h2⟩ := c k _ (contsL_get t kd zss k hk)
  exact ⟨u, h1, h2⟩
theorem SeesSS.below {C : Nat} (h : SeesSS w B kd v zss) (hb : Below C w w') (hB : B ≤ C) : SeesSS w' B kd v zss := by obtain ⟨us, h⟩ := h; exact ⟨us, h.below hb hB⟩
theorem SeesSS.out (h : SeesSS w B kd v zss) (hb : Out lo hi w w') (hB : B ≤ lo) (hw : B ≤ w.heap.size) : SeesSS w' B kd v zss := by obtain ⟨us, h⟩ := h; exact ⟨us, h.out hb hB hw⟩
theorem SeesSS.alloc (h : SeesSS w B kd v zss) (hB : B ≤ w.heap.size) (o : Obj) : SeesSS (w.alloc o) B kd v zss := by obtain ⟨us, h⟩ := h; exact ⟨us, h.alloc hB o⟩
theorem SeesSS.more {B' : Nat} (h : SeesSS w B kd v zss) (hB : B ≤ B') : SeesSS w B' kd v zss := by
  obtain ⟨us, ⟨A, c, e, r⟩, hl, he⟩ := h
  exact ⟨us, ⟨A, c, e, r.more hB⟩, hl, fun k c' hc => by obtain ⟨u, h1, A', c'', e', r'⟩ := he k c' hc; exact ⟨u, h1, A', c'', e', r'.more hB⟩⟩
theorem SeesSS.drew (h : SeesSS w B kd v zss) (k : Nat) : SeesSS (w.drewN k) B kd v zss := h
/-- where the k-th lies, and that it reads -/
theorem SeesSS.at_ (h : SeesSS w B kd v zss) (k : Nat) (hk : k < zss.length) : ∃ b off c u, v = .slice (some ⟨b, off, none⟩) zss.length c ∧ b < B ∧ w.cell? ⟨b, off + k, none⟩ = some u ∧ Sees w B kd u (nthL zss k) := by
  obtain ⟨us, ⟨A, c, rfl, hr⟩, hl, he⟩ := h
  obtain ⟨u, h1, h2⟩ := he k _ (contsL_get 0 kd zss k hk)
  obtain ⟨b, off, rfl, hb, hc⟩ := hr k u h1
  exact ⟨b, off, c, u, rfl, hb, hc, h2⟩
/-- the k-th: where it lies, and what comes of a write into it -/
theorem OwnSS.at_ (h : OwnSS w lo hi tt t kd v zss) (k : Nat) (hk : k < zss.length) : ∃ g c u, v = .slice (some ⟨g, 0, none⟩) zss.length c ∧ w.cell? ⟨g, k, none⟩ = some u ∧ Own w lo hi t kd u (nthL zss k) ∧
    ∀ w' ys, w.grownBy w' u.ownBlock → Own w' lo hi t kd u ys → OwnSS w' lo hi tt t kd v (zss.set k ys) := by
  obtain ⟨us, h⟩ := h
  obtain ⟨u, h1, h2⟩ := h.each k _ (contsL_get t kd zss k hk)
  have hrow := h.row
  rcases hrow.2 with ⟨_, h0⟩ | ⟨g, cap, cur, hv, hb, hg, hn, hm, hs, htk⟩
  · omega
  · subst hv
    refine ⟨g, cap, u, rfl, ?_, h2, fun w' ys hg' ho => ⟨us, ?_⟩⟩
    · rw [hrow.cellAt k (by omega)]; exact h1
    · have := h.turn (contsL_get t kd zss k hk) h1 hg' ho
      rw [contsL_set t kd zss k ys hk] at this
      rw [List.length_set]
      exact this
/-- one slice put behind -/
theorem OwnSS.push (h : OwnSS w lo hi tt t kd v zss) {us : List Value} (hus : ∀ us', OwnC w lo hi tt 1 v zss.length us' (contsL t kd zss) → us' = us) {v' u : Value} {zs : List Int}
    (hrow : w'.ownsRow lo tt 1 v' (zss.length + 1) (us ++ [u])) (hg : w.grownBy w' v.ownBlock) (hv : v'.ownBlock = v.ownBlock ∨ v'.ownBlock = some w.heap.size) (hhi : hi ≤ w.heap.size)
    (ho : Own w lo hi t kd u zs) (a2 : ∀ (i : Nat) (x : Value), us[i]? = some x → x.ownBlock = none ∨ x.ownBlock ≠ u.ownBlock) (a3 : u.ownBlock = none ∨ u.ownBlock ≠ v.ownBlock) : OwnSS w' lo w'.heap.size tt t kd v' (zss ++ [zs]) := by
  obtain ⟨us', h⟩ := h
  obtain rfl := hus us' h
  have hl := h.row.1
  rw [Nat.mul_one] at hl
  have := h.push (cn := contsL t kd [zs]) hrow hg hv hhi
    (fun k c hc => by
      have hk : k = 0 := by
        apply Classical.byContradiction; intro hn
        rw [contsL_none _ _ _ _ (by simp; omega)] at hc; cases hc
      subst hk
      rw [contsL_get _ _ _ _ (by simp)] at hc
      injection hc with hc
      subst hc
      exact ⟨u, rfl, ho⟩)
    (fun k x hx hc => by
      have hk : k = 0 := by have := (List.getElem?_eq_some_iff.1 hx).1; simp at this; exact this
      subst hk
      rw [contsL_get _ _ _ _ (by simp)] at hc; cases hc)
    (fun i j x y hij hx hy => by have := (List.getElem?_eq_some_iff.1 hy).1; simp at this; omega)
    (fun i j x y hx hy => by
      have hk : j = 0 := by have := (List.getElem?_eq_some_iff.1 hy).1; simp at this; exact this
      subst hk
      simp at hy
      subst hy
      exact a2 i x hx)
    (fun k x hx => by
      have hk : k = 0 := by have := (List.getElem?_eq_some_iff.1 hx).1; simp at this; exact this
      subst hk
      simp at hx
      subst hx
      exact a3)
  rw [contsL_app t kd zss zs us'.length hl] at this
  refine ⟨us' ++ [u], ?_⟩
  rw [List.length_append]
  exact this
end
end Go.Proofs.YtkkojemnbcddfaaDoor

namespace Go.Proofs.YtkkojemnbcddfaaDoor
open Go.RowKit

def marksSS : Int → List (List Int) → List (List Int)
  | _, [] => []
  | k, zs :: r => marks k zs.length :: marksSS (k + zs.length) r
theorem marksSS_length : ∀ (k : Int) (zss : List (List Int)), (marksSS k zss).length = zss.length
  | _, [] => rfl
  | k, zs :: r => by simp [marksSS, marksSS_length]
theorem nthL_zero (zs : List Int) (r : List (List Int)) : nthL (zs :: r) 0 = zs := rfl
theorem nthL_succ (zs : List Int) (r : List (List Int)) (j : Nat) : nthL (zs :: r) (j + 1) = nthL r j := by simp [nthL]
theorem total_cons (zs : List Int) (r : List (List Int)) : total (zs :: r) = zs.length + total r := by simp [total]
theorem marksSS_nth : ∀ (k : Int) (zss : List (List Int)) (j : Nat), j < zss.length → nthL (marksSS k zss) j = marks (k + (total (zss.take j) : Int)) (nthL zss j).length
  | _, [], _, h => by simp at h
  | k, zs :: r, 0, _ => by simp [marksSS, nthL_zero, total]
  | k, zs :: r, j + 1, h => by
    rw [marksSS, nthL_succ, nthL_succ, marksSS_nth (k + zs.length) r j (by simpa using h), List.take_succ_cons, total_cons]
    congr 1
    omega
theorem total_take_step (zss : List (List Int)) (j : Nat) (h : j < zss.length) : total (zss.take (j + 1)) = total (zss.take j) + (nthL zss j).length := by
  rw [List.take_succ_eq_append_getElem h, total_app, total_one]
  simp [nthL, List.getElem?_eq_getElem h]
theorem total_take_le : ∀ (zss : List (List Int)) (j : Nat), total (zss.take j) ≤ total zss
  | [], j => by simp
  | zs :: r, 0 => by simp [total]
  | zs :: r, j + 1 => by rw [List.take_succ_cons, total_cons, total_cons]; have := total_take_le r j; omega
theorem total_nth_le (zss : List (List Int)) (j : Nat) (h : j < zss.length) : total (zss.take j) + (nthL zss j).length ≤ total zss := by
  rw [← total_take_step zss j h]; exact total_take_le _ _
/-- the first j of a, then those of b -/
def mixL (a b : List (List Int)) (j : Nat) : List (List Int) := a.take j ++ b.drop j
theorem mixL_length (a b : List (List Int)) (j : Nat) (h : a.length = b.length) : (mixL a b j).length = b.length := by simp [mixL, h]; omega
theorem mixL_nth (a b : List (List Int)) (j : Nat) (h : a.length = b.length) (hj : j < b.length) : nthL (mixL a b j) j = nthL b j := by
  unfold nthL mixL
  rw [List.getElem?_append_right (by simp; omega), List.getElem?_drop, List.length_take, Nat.min_eq_left (by omega)]
  congr 2
  omega
theorem mixL_step (a b : List (List Int)) (j : Nat) (h : a.length = b.length) (hj : j < b.length) : (mixL a b j).set j (nthL a j) = mixL a b (j + 1) := by
  have e : a.take (j + 1) = a.take j ++ [nthL a j] := by
    rw [List.take_succ_eq_append_getElem (by omega)]; simp [nthL, List.getElem?_eq_getElem (show j < a.length by omega)]
  unfold mixL
  rw [List.set_append_right _ _ (by simp; omega), List.length_take, Nat.min_eq_left (by omega), Nat.sub_self, List.drop_eq_getElem_cons hj, List.set_cons_zero, e]
  simp
theorem mixL_zero (a b : List (List Int)) : mixL a b 0 = b := by simp [mixL]
theorem mixL_all (a b : List (List Int)) (j : Nat) (h : a.length = b.length) (hj : b.length ≤ j) : mixL a b j = a := by
  unfold mixL; rw [List.drop_of_length_le hj, List.take_of_length_le (by omega), List.append_nil]

theorem lwNums_same (v u : Value) (zs : List Int) (w : World) (B B' : Nat) (h1 : Sees w B .i64 v zs) (h2 : Sees w B' .i64 u zs) (hl : zs.length < 1000000000) :
    Calls Tryd.prog 20 #[v, u] w fun e w' => e = .returned (.bool true) ∧ ∃ n, w' = w.drewN n := by
  obtain ⟨A, c, rfl, hr⟩ := h1
  obtain ⟨A', c', rfl, hr'⟩ := h2
  exact (lwNums_any A A' zs zs c c' w B B' hr hr' hl hl).mono fun e w' ⟨he, hw⟩ => ⟨by rw [he]; simp, hw⟩


end Go.Proofs.YtkkojemnbcddfaaDoor

namespace Go.Proofs.YtkkojemnbcddfaaDoor
open Go.RowKit

/-- numbers that a drawn text may hold -/
def Drawn (ts : List Int) : Prop := ∀ t ∈ ts, -1 ≤ t ∧ t ≤ 1114112
theorem Drawn.app {a b : List Int} (h : Drawn a) (k : Drawn b) : Drawn (a ++ b) := fun t ht => by
  rcases List.mem_append.1 ht with h1 | h1
  · exact h t h1
  · exact k t h1
theorem Drawn.one {x : Int} (h : -1 ≤ x ∧ x ≤ 1114112) : Drawn [x] := fun t ht => by rw [List.mem_singleton.1 ht]; exact h
theorem Drawn.chr {ts : List Int} (h : ∀ t ∈ ts, chrB t = true) : Drawn ts := fun t ht => by have := chrB_range (h t ht); omega
theorem Drawn.wf {ts : List Int} (h : Drawn ts) : ∀ n ∈ ts, (Lit.int .i64 n).wf = true := by
  intro n hn
  have := h n hn
  have h1 : IntKind.i64.min = -9223372036854775808 := rfl
  have h2 : IntKind.i64.max = 9223372036854775807 := rfl
  simp only [Lit.wf, Bool.and_eq_true, decide_eq_true_eq, h1, h2]
  omega
/-- an owned row grown by an append: what the source and the frame keep -/
theorem grown_close {w w1 w2 : World} {g : Nat} {zs ts news : List Int} {at2 : Int} {v v' : Value} {m : Nat} (gl : g < w.heap.size) (r1 : w1.ownsRow w.heap.size 2 1 v ts.length (nums .i64 ts)) (S1 : Src w1 g zs at2) (ou1 : Out g (g + 1) w w1)
    (o2 : w2.ownsRow w.heap.size 2 1 v' (ts.length + m) (nums .i64 ts ++ nums .i64 news)) (hm : news.length = m) (g2 : w1.grownBy w2 v.ownBlock) :
    w2.ownsRow w.heap.size 2 1 v' (ts ++ news).length (nums .i64 (ts ++ news)) ∧ Src w2 g zs at2 ∧ Out g (g + 1) w w2 := by
  have ro := row_out r1 g2
  refine ⟨?_, S1.out ro gl, ou1.later ro (Nat.le_refl _)⟩
  subst hm
  simpa [nums] using o2



end Go.Proofs.YtkkojemnbcddfaaDoor

namespace Go.Proofs.YtkkojemnbcddfaaDoor
open Go.RowKit

theorem l2Iso6_any (k : Int) (w : World) :
    Calls Tryd.prog 98 #[.int .i64 k] w fun e w' => e = .returned (.bool (decide (19 ≤ k ∧ k ≤ 22))) ∧ w = w' := by
  go_enter Tryd.func98, Tryd.ntmps98
  go_wp2_with (go_at_call 43; refine (l1In_any _ _ _ _).mono ?_; rintro e w' ⟨rfl, rfl⟩)
  go_ret
  exact ⟨rbool (by simp), rfl⟩
/-- the row of classes in the model's hands -/
abbrev Row6 (w : World) (lo : Nat) (A : Option Addr) (n c : Nat) (cs : List Int) : Prop := w.ownsRow lo 2 1 (.slice A n c) n (nums .i64 cs)
theorem own_put_cell {w : World} {base n cap g : Nat} {e : TypeId} {xs : List Value} {k : Nat} {u : Value} (h : w.ownsRow base e 1 (.slice (some ⟨g, 0, none⟩) n cap) n (xs.set k u)) (hk : k < n) : w.cell? ⟨g, k, none⟩ = some u := by
  have hl : xs.length = n := by have := h.1; simpa using this
  rw [h.cellAt k (by omega), List.getElem?_set_self (by omega)]
theorem below_put {w w0 w' : World} {lo g n cap : Nat} {e : TypeId} {xs : List Value} (hb : Below lo w0 w) (h : w.ownsRow lo e 1 (.slice (some ⟨g, 0, none⟩) n cap) n xs) (hg : w.grownBy w' (some g)) (hlo : lo ≤ w.heap.size) : Below lo w0 w' :=
  hb.grown hg hlo fun k hk => (h.lt k hk).1
set_option maxRecDepth 100000 in
set_option maxHeartbeats 2000000 in
theorem l6Marks_any (v : Value) (xs : List Int) (s : Int) (w : World) (B : Nat) (h : Sees w B .i64 v xs) (hB : B ≤ w.heap.size) (hl : xs.length ≤ 600) :
    Calls Tryd.prog 102 #[v, .int .i64 s] w fun e w' => (∃ u, e = .returned u ∧ Own w' w.heap.size w'.heap.size 2 .i64 u (marksW xs s)) ∧ Below w.heap.size w w' := by
  obtain ⟨i0, hi, hz0, hz1, hz2⟩ := info_parts info_int64
  obtain ⟨A0, c0, rfl, hr⟩ := h
  have HS := Lib.hid (show Sees w B .i64 (.slice A0 xs.length c0) xs from ⟨A0, c0, rfl, hr⟩)
  clear hr
  go_enter Tryd.func102, Tryd.ntmps102
  go_wp2_with fail
  refine (l1Ints_own _ xs w B HS.out hB (by omega)).mono ?_
  rintro e w1 ⟨⟨u, rfl, o1⟩, b1⟩
  obtain ⟨A, c, rfl⟩ := o1.form
  obtain ⟨n, hn⟩ : ∃ n, Hid (n = xs.length) := ⟨_, Lib.hid rfl⟩
  have R1 := Lib.hid o1.1
  rw [← hn.out] at R1 hl ⊢
  have R1 : Hid (Row6 w1 w.heap.size A n c (stepN [8] (fMark s) xs 0)) := R1
  have B1 := Lib.hid b1
  clear o1 b1
  go_wp2
  go_loopw [6, 7] (fun l i wr => ∃ k : Nat, k ≤ n ∧ i = .int .i64 k ∧ l = .int .i64 (prevV s (stepN [8] (fMark s) xs k) k) ∧ Hid (Row6 wr w.heap.size A n c (stepN [8] (fMark s) xs k)) ∧ Hid (Below w.heap.size w wr)) (fun _ i _ => n - (intOf i).toNat)
  case atStart => exact ⟨0, by omega, rfl, rfl, R1, B1⟩
  case round =>
    clear R1 B1
    obtain ⟨k, hk, rfl, rfl, hw, hbr⟩ := hrel
    by_cases hlt : k < n
    · obtain ⟨ga, ca, eA, hga⟩ := own_addr hw.out (by omega)
      injection eA with eA e2 e3
      subst eA; subst e3
      clear e2
      have hc0 := own_cell hw.out k hlt
      have HIT := Lib.hid (fun h => mark_hit xs s (k := k) h)
      have MISS := Lib.hid (fun h => mark_miss xs s (k := k) h)
      have PN := Lib.hid (prevV_next s (stepN [8] (fMark s) xs (k + 1)) k)
      have FAR := Lib.hid (stepN_len [8] (fMark s) xs k)
      obtain ⟨S, hS⟩ : ∃ S, Hid (S = stepN [8] (fMark s) xs k) := ⟨_, Lib.hid rfl⟩
      rw [← hS.out] at hc0 HIT MISS hw FAR ⊢
      obtain ⟨q, hq⟩ : ∃ q, Hid (q = nth S k) := ⟨_, Lib.hid rfl⟩
      obtain ⟨a, ha⟩ : ∃ a, Hid (a = prevV s S k) := ⟨_, Lib.hid rfl⟩
      rw [← hq.out] at hc0 HIT MISS
      rw [← ha.out] at HIT ⊢
      by_cases h8 : q = 8
      · have E := Lib.hid (HIT.out h8)
        have hb8 : (q == 8) = true := by simp [h8]
        have PV := Lib.hid (show prevV s (stepN [8] (fMark s) xs (k + 1)) (k + 1) = mV a by rw [PN.out, E.out, nth_set _ _ _ _ (by rw [FAR.out, ← hn.out]; exact hlt), if_pos rfl])
        by_cases hm : 19 ≤ a ∧ a ≤ 22
        · have D := Lib.hid (decide_eq_true hm)
          have M := Lib.hid (show mV a = 13 by unfold mV; rw [if_pos hm])
          have hbsz := hbr.out.size
          clear h8 hm
          have tok1 : True := trivial
          go_wp2_with (first
            | (go_at_call 98; refine (l2Iso6_any _ _).mono ?_; rintro e w' ⟨rfl, rfl⟩; rw [D.out])
            | (have _t := tok1; refine wpList_put rfl _ _ _ rfl i0 hi hz1 k (.int .i64 a) rfl rfl rfl hw.out hlt ?_; intro w2 o2 g2; clear tok1 hc0)
            | (refine wpList_put rfl _ _ _ rfl i0 hi hz1 k (.int .i64 13) rfl rfl rfl o2 hlt ?_; intro w3 o3 g3; have hc3 := own_put_cell o3 hlt))
          have R3 := Lib.hid (show Row6 w3 w.heap.size (some ⟨ga, 0, none⟩) n c (stepN [8] (fMark s) xs (k + 1)) by
            rw [E.out, M.out]
            have := own_set (ys := S.set k a) (by rw [← nums_set]; exact o3)
            rwa [List.set_set] at this)
          have B3 := Lib.hid (below_put (below_put hbr.out hw.out g2 hbsz) o2 g3 (by have := g2.size; omega))
          have PV2 := Lib.hid (PV.out.trans M.out)
          clear o2 o3 g2 g3
          go_roundw
          case rel => exact ⟨k + 1, by omega, by go_num, by rw [PV2.out], R3, B3⟩
          case measure => first | omega | (simp [intOf]; omega)
        · have D := Lib.hid (decide_eq_false hm)
          have M := Lib.hid (show mV a = a by unfold mV; rw [if_neg hm])
          have hbsz := hbr.out.size
          clear h8 hm
          go_wp2_with (first
            | (go_at_call 98; refine (l2Iso6_any _ _).mono ?_; rintro e w' ⟨rfl, rfl⟩; rw [D.out])
            | (refine wpList_put rfl _ _ _ rfl i0 hi hz1 k (.int .i64 a) rfl rfl rfl hw.out hlt ?_; intro w2 o2 g2; have hc3 := own_put_cell o2 hlt; clear hc0))
          have R3 := Lib.hid (show Row6 w2 w.heap.size (some ⟨ga, 0, none⟩) n c (stepN [8] (fMark s) xs (k + 1)) by
            rw [E.out, M.out]
            exact own_set o2)
          have B3 := Lib.hid (below_put hbr.out hw.out g2 hbsz)
          have PV2 := Lib.hid (PV.out.trans M.out)
          clear o2 g2
          go_roundw
          case rel => exact ⟨k + 1, by omega, by go_num, by rw [PV2.out], R3, B3⟩
          case measure => first | omega | (simp [intOf]; omega)
      · have E := Lib.hid (MISS.out h8)
        have hb8 : (q == 8) = false := by simpa using h8
        have PV := Lib.hid (show prevV s (stepN [8] (fMark s) xs (k + 1)) (k + 1) = q by rw [PN.out, E.out, ← hq.out])
        have R3 := Lib.hid (show Row6 wr w.heap.size (some ⟨ga, 0, none⟩) n c (stepN [8] (fMark s) xs (k + 1)) by rw [E.out]; exact hw.out)
        clear h8
        go_wp2
        go_roundw
        case rel => exact ⟨k + 1, by omega, by go_num, by rw [PV.out], R3, hbr⟩
        case measure => first | omega | (simp [intOf]; omega)
    · obtain rfl : k = n := by omega
      have HO := Lib.hid (show Own wr w.heap.size wr.heap.size 2 .i64 (.slice A k c) (marksW xs s) from Own.mk_ (by unfold marksW doStep; rw [← hn.out]; exact hw.out) (by rw [marksW_len]; exact hn.out))
      go_wp2
      go_ret
      exact ⟨⟨_, rfl, HO.out⟩, hbr.out⟩
set_option maxRecDepth 100000 in
set_option maxHeartbeats 4000000 in
theorem l6Numbers_any (v : Value) (xs : List Int) (s : Int) (w : World) (B : Nat) (h : Sees w B .i64 v xs) (hB : B ≤ w.heap.size) (hl : xs.length ≤ 600) :
    Calls Tryd.prog 101 #[v, .int .i64 s] w fun e w' => (∃ u, e = .returned u ∧ Own w' w.heap.size w'.heap.size 2 .i64 u (numsW xs s)) ∧ Below w.heap.size w w' := by
  obtain ⟨i0, hi, hz0, hz1, hz2⟩ := info_parts info_int64
  obtain ⟨A0, c0, rfl, hr⟩ := h
  have HS := Lib.hid (show Sees w B .i64 (.slice A0 xs.length c0) xs from ⟨A0, c0, rfl, hr⟩)
  clear hr
  go_enter Tryd.func101, Tryd.ntmps101
  go_wp2_with fail
  refine (l1Ints_own _ xs w B HS.out hB (by omega)).mono ?_
  rintro e w1 ⟨⟨u, rfl, o1⟩, b1⟩
  obtain ⟨A, c, rfl⟩ := o1.form
  obtain ⟨n, hn⟩ : ∃ n, Hid (n = xs.length) := ⟨_, Lib.hid rfl⟩
  have R1 := Lib.hid o1.1
  rw [← hn.out] at R1 hl ⊢
  have R1 : Hid (Row6 w1 w.heap.size A n c (stepN [3] (fNum s) xs 0)) := R1
  have B1 := Lib.hid b1
  clear o1 b1
  go_wp2
  go_loopw [6, 7] (fun l i wr => ∃ k : Nat, k ≤ n ∧ i = .int .i64 k ∧ l = .int .i64 (lastA [0, 1, 2] s (stepN [3] (fNum s) xs k) k) ∧ Hid (Row6 wr w.heap.size A n c (stepN [3] (fNum s) xs k)) ∧ Hid (Below w.heap.size w wr)) (fun _ i _ => n - (intOf i).toNat)
  case atStart => exact ⟨0, by omega, rfl, rfl, R1, B1⟩
  case round =>
    clear R1 B1
    obtain ⟨k, hk, rfl, rfl, hw, hbr⟩ := hrel
    by_cases hlt : k < n
    · obtain ⟨ga, ca, eA, hga⟩ := own_addr hw.out (by omega)
      injection eA with eA e2 e3
      subst eA; subst e3
      clear e2
      have hc0 := own_cell hw.out k hlt
      have STR := Lib.hid (fun h => num_strong xs s (k := k) h)
      have OTH := Lib.hid (fun h => num_other xs s (k := k) h)
      have EN := Lib.hid (fun h => num_en xs s (k := k) (by rw [← hn.out]; exact hlt) h)
      have hbsz := hbr.out.size
      obtain ⟨S, hS⟩ : ∃ S, Hid (S = stepN [3] (fNum s) xs k) := ⟨_, Lib.hid rfl⟩
      rw [← hS.out] at hc0 STR OTH EN hw ⊢
      obtain ⟨q, hq⟩ : ∃ q, Hid (q = nth S k) := ⟨_, Lib.hid rfl⟩
      obtain ⟨a, ha⟩ : ∃ a, Hid (a = lastA [0, 1, 2] s S k) := ⟨_, Lib.hid rfl⟩
      rw [← hq.out] at hc0 STR OTH EN
      rw [← ha.out] at OTH EN ⊢
      obtain ⟨S', hS'⟩ : ∃ S', Hid (S' = stepN [3] (fNum s) xs (k + 1)) := ⟨_, Lib.hid rfl⟩
      rw [← hS'.out] at STR OTH EN
      by_cases h3 : q = 3
      · have E := Lib.hid (EN.out h3)
        subst h3
        clear STR OTH EN
        by_cases h2 : a = 2
        · have R0 := Lib.hid (show S' = S.set k 6 by rw [E.out.1, if_pos h2])
          have L0 := Lib.hid (E.out.2)
          have b2 : (a == 2) = true := by simp [h2]
          clear h2
          go_wp2_with (refine wpList_put rfl _ _ _ rfl i0 hi hz1 k (.int .i64 6) rfl rfl rfl hw.out hlt ?_; intro w2 o2 g2)
          have R3 := Lib.hid (show Row6 w2 w.heap.size (some ⟨ga, 0, none⟩) n c (stepN [3] (fNum s) xs (k + 1)) by rw [← hS'.out, R0.out]; exact own_set o2)
          have B3 := Lib.hid (below_put hbr.out hw.out g2 hbsz)
          clear o2 g2
          go_roundw
          case rel => exact ⟨k + 1, by omega, by go_num, by rw [← hS'.out, L0.out], R3, B3⟩
          case measure => first | omega | (simp [intOf]; omega)
        · have R0 := Lib.hid (show S' = S by rw [E.out.1, if_neg h2])
          have L0 := Lib.hid (E.out.2)
          have b2 : (a == 2) = false := by simpa using h2
          have R3 := Lib.hid (show Row6 wr w.heap.size (some ⟨ga, 0, none⟩) n c (stepN [3] (fNum s) xs (k + 1)) by rw [← hS'.out, R0.out]; exact hw.out)
          clear h2
          go_wp2
          go_roundw
          case rel => exact ⟨k + 1, by omega, by go_num, by rw [← hS'.out, L0.out], R3, hbr⟩
          case measure => first | omega | (simp [intOf]; omega)
      · by_cases hst : q = 0 ∨ q = 1 ∨ q = 2
        · have E := Lib.hid (STR.out hst)
          have R3 := Lib.hid (show Row6 wr w.heap.size (some ⟨ga, 0, none⟩) n c (stepN [3] (fNum s) xs (k + 1)) by rw [← hS'.out, E.out.1]; exact hw.out)
          have L3 := Lib.hid (show lastA [0, 1, 2] s (stepN [3] (fNum s) xs (k + 1)) (k + 1) = q by rw [← hS'.out, E.out.2])
          clear STR OTH EN E h3
          rcases hst with rfl | rfl | rfl
          all_goals
            go_wp2
            go_roundw
            case rel => exact ⟨k + 1, by omega, by go_num, by rw [L3.out], R3, hbr⟩
            case measure => first | omega | (simp [intOf]; omega)
        · have E := Lib.hid (OTH.out (by omega))
          have R3 := Lib.hid (show Row6 wr w.heap.size (some ⟨ga, 0, none⟩) n c (stepN [3] (fNum s) xs (k + 1)) by rw [← hS'.out, E.out.1]; exact hw.out)
          have L3 := Lib.hid (show lastA [0, 1, 2] s (stepN [3] (fNum s) xs (k + 1)) (k + 1) = a by rw [← hS'.out, E.out.2])
          have n0 : (q == 0) = false := by simp; omega
          have n1 : (q == 1) = false := by simp; omega
          have n2 : (q == 2) = false := by simp; omega
          have n3 : (q == 3) = false := by simp; omega
          clear STR OTH EN E h3 hst
          go_wp2
          go_roundw
          case rel => exact ⟨k + 1, by omega, by go_num, by rw [L3.out], R3, hbr⟩
          case measure => first | omega | (simp [intOf]; omega)
    · obtain rfl : k = n := by omega
      obtain ⟨ys, hys⟩ : ∃ ys, Hid (ys = doStep [3] (fNum s) xs) := ⟨_, Lib.hid rfl⟩
      have R1 := Lib.hid (show Row6 wr w.heap.size A k c (stepN [2] fLet ys 0) by show Row6 _ _ _ _ _ ys; rw [hys.out]; unfold doStep; rw [← hn.out]; exact hw.out)
      have YL := Lib.hid (show k = ys.length by rw [hys.out, doStep_len]; exact hn.out)
      have B1 := hbr
      clear hw hbr
      generalize wr = w2 at *
      clear wr
      go_wp2
      go_loopw [8] (fun i wr => ∃ j : Nat, j ≤ k ∧ i = .int .i64 j ∧ Hid (Row6 wr w.heap.size A k c (stepN [2] fLet ys j)) ∧ Hid (Below w.heap.size w wr)) (fun i _ => k - (intOf i).toNat)
      case atStart => exact ⟨0, by omega, rfl, R1, B1⟩
      case round =>
        clear R1 B1
        obtain ⟨j, hj, rfl, hw, hbr⟩ := hrel
        by_cases hlt : j < k
        · obtain ⟨ga, ca, eA, hga⟩ := own_addr hw.out (by omega)
          injection eA with eA e2 e3
          subst eA; subst e3
          clear e2
          have hc0 := own_cell hw.out j hlt
          have HIT := Lib.hid (fun h => let_hit ys (k := j) h)
          have MISS := Lib.hid (fun h => let_miss ys (k := j) h)
          have hbsz := hbr.out.size
          obtain ⟨S, hS⟩ : ∃ S, Hid (S = stepN [2] fLet ys j) := ⟨_, Lib.hid rfl⟩
          rw [← hS.out] at hc0 HIT MISS hw
          obtain ⟨q, hq⟩ : ∃ q, Hid (q = nth S j) := ⟨_, Lib.hid rfl⟩
          rw [← hq.out] at hc0 HIT MISS
          by_cases h2 : q = 2
          · have E := Lib.hid (HIT.out h2)
            have b2 : (q == 2) = true := by simp [h2]
            clear h2 HIT MISS
            go_wp2_with (refine wpList_put rfl _ _ _ rfl i0 hi hz1 j (.int .i64 1) rfl rfl rfl hw.out hlt ?_; intro w3 o3 g3)
            have R3 := Lib.hid (show Row6 w3 w.heap.size (some ⟨ga, 0, none⟩) k c (stepN [2] fLet ys (j + 1)) by rw [E.out]; exact own_set o3)
            have B3 := Lib.hid (below_put hbr.out hw.out g3 hbsz)
            clear o3 g3
            go_roundw
            case rel => exact ⟨j + 1, by omega, by go_num, R3, B3⟩
            case measure => first | omega | (simp [intOf]; omega)
          · have E := Lib.hid (MISS.out h2)
            have b2 : (q == 2) = false := by simpa using h2
            have R3 := Lib.hid (show Row6 wr w.heap.size (some ⟨ga, 0, none⟩) k c (stepN [2] fLet ys (j + 1)) by rw [E.out]; exact hw.out)
            clear h2 HIT MISS
            go_wp2
            go_roundw
            case rel => exact ⟨j + 1, by omega, by go_num, R3, hbr⟩
            case measure => first | omega | (simp [intOf]; omega)
        · obtain rfl : j = k := by omega
          have HO := Lib.hid (show Own wr w.heap.size wr.heap.size 2 .i64 (.slice A j c) (numsW xs s) from Own.mk_ (by
            have e : numsW xs s = stepN [2] fLet ys j := by unfold numsW; rw [← hys.out]; unfold doStep; rw [← YL.out]
            rw [e]; exact hw.out) (by rw [numsW_len]; exact hn.out))
          go_wp2
          go_ret
          exact ⟨⟨_, rfl, HO.out⟩, hbr.out⟩
end Go.Proofs.YtkkojemnbcddfaaDoor

namespace Go.Proofs.YtkkojemnbcddfaaDoor
open Go.RowKit

set_option maxRecDepth 100000 in
set_option maxHeartbeats 4000000 in
theorem l6Between_any (w : World) (lo : Nat) (A : Option Addr) (n c : Nat) (xs : List Int) (h : Row6 w lo A n c xs) (hlo : lo ≤ w.heap.size) (hl : n ≤ 600) (hn : n = xs.length) :
    Calls Tryd.prog 116 #[.slice A n c] w fun e w' => (e = .returned (.tuple #[]) ∧ Row6 w' lo A n c (sepW xs)) ∧ Below lo w w' := by
  obtain ⟨i0, hi, hz0, hz1, hz2⟩ := info_parts info_int64
  have HN := Lib.hid hn
  have R1 := Lib.hid (show Row6 w lo A n c (stepN [4, 7] fSep xs 1) by
    have e := sep_edge xs (k := 0) (.inl rfl)
    show Row6 w lo A n c (stepN [4, 7] fSep xs (0 + 1))
    rw [e]; exact h)
  have B1 := Lib.hid (Below.refl lo w)
  clear h hn
  go_enter Tryd.func116, Tryd.ntmps116
  go_wp2
  go_loopw [2] (fun i wr => ∃ k : Nat, 1 ≤ k ∧ (k + 1 ≤ n ∨ k = 1) ∧ i = .int .i64 k ∧ Hid (Row6 wr lo A n c (stepN [4, 7] fSep xs k)) ∧ Hid (Below lo w wr)) (fun i _ => n - (intOf i).toNat)
  case atStart => exact ⟨1, by omega, by omega, rfl, R1, B1⟩
  case round =>
    clear R1 B1
    obtain ⟨k, hk1, hk2, rfl, hw, hbr⟩ := hrel
    have hsz : lo ≤ wr.heap.size := by have := hbr.out.size; omega
    by_cases hlt : k + 1 < n
    · obtain ⟨j, rfl⟩ : ∃ j, k = j + 1 := ⟨k - 1, by omega⟩
      obtain ⟨ga, ca, eA, hga⟩ := own_addr hw.out (by omega)
      injection eA with eA e2 e3
      subst eA; subst e3
      clear e2 hk1 hk2
      have hca := own_cell hw.out j (by omega)
      have hcz := own_cell hw.out (j + 1) (by omega)
      have hcb := own_cell hw.out (j + 1 + 1) (by omega)
      have ON := Lib.hid (fun h => sep_on xs (k := j + 1) (by omega) (by rw [← HN.out]; exact hlt) h)
      have OFF := Lib.hid (fun h => sep_off xs (k := j + 1) h)
      obtain ⟨S, hS⟩ : ∃ S, Hid (S = stepN [4, 7] fSep xs (j + 1)) := ⟨_, Lib.hid rfl⟩
      rw [← hS.out] at hca hcz hcb ON OFF hw
      obtain ⟨S', hS'⟩ : ∃ S', Hid (S' = stepN [4, 7] fSep xs (j + 1 + 1)) := ⟨_, Lib.hid rfl⟩
      rw [← hS'.out] at ON OFF
      have ON : Hid (sepOn (nth S j) (nth S (j + 1)) (nth S (j + 1 + 1)) → S' = S.set (j + 1) (nth S j)) := ON
      have OFF : Hid (¬ sepOn (nth S j) (nth S (j + 1)) (nth S (j + 1 + 1)) → S' = S) := OFF
      obtain ⟨a, ha⟩ : ∃ a, Hid (a = nth S j) := ⟨_, Lib.hid rfl⟩
      obtain ⟨z, hz⟩ : ∃ z, Hid (z = nth S (j + 1)) := ⟨_, Lib.hid rfl⟩
      obtain ⟨b, hb⟩ : ∃ b, Hid (b = nth S (j + 1 + 1)) := ⟨_, Lib.hid rfl⟩
      rw [← ha.out] at hca
      rw [← hz.out] at hcz
      rw [← hb.out] at hcb
      rw [← ha.out, ← hz.out, ← hb.out] at ON OFF
      have FOFF := Lib.hid (fun h => show Row6 wr lo (some ⟨ga, 0, none⟩) n c (stepN [4, 7] fSep xs (j + 1 + 1)) by rw [← hS'.out, OFF.out h]; exact hw.out)
      by_cases hab : a = b
      · subst hab
        have nab : (a != a) = false := by simp
        by_cases ha3 : a = 3
        · subst ha3
          by_cases hz7 : z = 7 ∨ z = 4
          · have E := Lib.hid (ON.out ⟨rfl, .inl rfl, by omega⟩)
            clear ON OFF FOFF
            rcases hz7 with rfl | rfl
            all_goals
              go_wp2_with (refine wpList_put rfl _ _ _ rfl i0 hi hz1 (j + 1) (.int .i64 3) rfl rfl rfl hw.out (by omega) ?_; intro w3 o3 g3)
              have R3 := Lib.hid (show Row6 w3 lo (some ⟨ga, 0, none⟩) n c (stepN [4, 7] fSep xs (j + 1 + 1)) by rw [← hS'.out, E.out]; exact own_set o3)
              have B3 := Lib.hid (below_put hbr.out hw.out g3 hsz)
              clear o3 g3
              go_roundw
              case rel => exact ⟨j + 1 + 1, by omega, by omega, by go_num, R3, B3⟩
              case measure => first | omega | (simp [intOf]; omega)
          · have R3 := Lib.hid (FOFF.out (by unfold sepOn; omega))
            have n7 : (z == 7) = false := by simp; omega
            have n4 : (z == 4) = false := by simp; omega
            clear ON OFF FOFF hz7
            go_wp2
            go_roundw
            case rel => exact ⟨j + 1 + 1, by omega, by omega, by go_num, R3, hbr⟩
            case measure => first | omega | (simp [intOf]; omega)
        · by_cases ha6 : a = 6
          · subst ha6
            clear ha3
            by_cases hz7 : z = 7
            · have E := Lib.hid (ON.out ⟨rfl, .inr rfl, .inl hz7⟩)
              subst hz7
              clear ON OFF FOFF
              go_wp2_with (refine wpList_put rfl _ _ _ rfl i0 hi hz1 (j + 1) (.int .i64 6) rfl rfl rfl hw.out (by omega) ?_; intro w3 o3 g3)
              have R3 := Lib.hid (show Row6 w3 lo (some ⟨ga, 0, none⟩) n c (stepN [4, 7] fSep xs (j + 1 + 1)) by rw [← hS'.out, E.out]; exact own_set o3)
              have B3 := Lib.hid (below_put hbr.out hw.out g3 hsz)
              clear o3 g3
              go_roundw
              case rel => exact ⟨j + 1 + 1, by omega, by omega, by go_num, R3, B3⟩
              case measure => first | omega | (simp [intOf]; omega)
            · have R3 := Lib.hid (FOFF.out (by unfold sepOn; omega))
              have n7 : (z == 7) = false := by simpa using hz7
              clear ON OFF FOFF hz7
              by_cases hz4 : z = 4
              · subst hz4
                go_wp2
                go_roundw
                case rel => exact ⟨j + 1 + 1, by omega, by omega, by go_num, R3, hbr⟩
                case measure => first | omega | (simp [intOf]; omega)
              · have n4 : (z == 4) = false := by simpa using hz4
                clear hz4
                go_wp2
                go_roundw
                case rel => exact ⟨j + 1 + 1, by omega, by omega, by go_num, R3, hbr⟩
                case measure => first | omega | (simp [intOf]; omega)
          · have R3 := Lib.hid (FOFF.out (by unfold sepOn; omega))
            have n3 : (a != 3) = true := by simpa using ha3
            have n6 : (a != 6) = true := by simpa using ha6
            clear ON OFF FOFF ha3 ha6
            go_wp2
            go_roundw
            case rel => exact ⟨j + 1 + 1, by omega, by omega, by go_num, R3, hbr⟩
            case measure => first | omega | (simp [intOf]; omega)
      · have R3 := Lib.hid (FOFF.out (by unfold sepOn; omega))
        have nab : (a != b) = true := by simpa using hab
        clear ON OFF FOFF hab
        go_wp2
        go_roundw
        case rel => exact ⟨j + 1 + 1, by omega, by omega, by go_num, R3, hbr⟩
        case measure => first | omega | (simp [intOf]; omega)
    · have R3 := Lib.hid (show Row6 wr lo A n c (sepW xs) by
        unfold sepW doStep
        rw [← HN.out]
        by_cases h0 : n = 0
        · have e1 : k = 0 + 1 := by omega
          have := hw.out
          rw [e1, sep_edge xs (k := 0) (.inl rfl)] at this
          rw [h0] at this ⊢
          exact this
        · by_cases h1 : n = k
          · rw [h1]; rw [h1] at hw; exact hw.out
          · have e1 : n = k + 1 := by omega
            have e2 := sep_edge xs (k := k) (.inr (by rw [← HN.out]; omega))
            rw [show stepN [4, 7] fSep xs n = stepN [4, 7] fSep xs k by rw [e1, e2]]
            exact hw.out)
      clear hw
      go_wp2
      go_end0
      exact ⟨⟨rfl, R3.out⟩, hbr.out⟩
set_option maxRecDepth 100000 in
set_option maxHeartbeats 8000000 in
theorem l6Terms_any (w : World) (lo : Nat) (A : Option Addr) (n c : Nat) (xs : List Int) (h : Row6 w lo A n c xs) (hlo : lo ≤ w.heap.size) (hl : n ≤ 600) (hn : n = xs.length) :
    Calls Tryd.prog 117 #[.slice A n c] w fun e w' => (e = .returned (.tuple #[]) ∧ Row6 w' lo A n c (termW xs)) ∧ Below lo w w' := by
  obtain ⟨i0, hi, hz0, hz1, hz2⟩ := info_parts info_int64
  have HN := Lib.hid hn
  have R1 := Lib.hid (show Row6 w lo A n c (stepN [5] fTerm xs 0) from h)
  have B1 := Lib.hid (Below.refl lo w)
  clear h hn
  go_enter Tryd.func117, Tryd.ntmps117
  go_wp2
  go_loopw [2] (fun i wr => ∃ k : Nat, k ≤ n ∧ i = .int .i64 k ∧ Hid (Row6 wr lo A n c (stepN [5] fTerm xs k)) ∧ Hid (Below lo w wr)) (fun i _ => n - (intOf i).toNat)
  case atStart => exact ⟨0, by omega, rfl, R1, B1⟩
  case round =>
    clear R1 B1
    obtain ⟨k, hk, rfl, hw, hbr⟩ := hrel
    generalize wr = wo at *
    clear wr
    by_cases hlt : k < n
    · obtain ⟨ga, ca, eA, hga⟩ := own_addr hw.out (by omega)
      injection eA with eA e2 e3
      subst eA; subst e3
      clear e2
      have hck := own_cell hw.out k hlt
      have HW := Lib.hid hw.out
      have MISS := Lib.hid (fun h => term_miss xs (k := k) h)
      have LS := Lib.hid ((stepN_len [5] fTerm xs k).trans HN.out.symm)
      obtain ⟨S, hS⟩ : ∃ S, Hid (S = stepN [5] fTerm xs k) := ⟨_, Lib.hid rfl⟩
      rw [← hS.out] at hck MISS LS
      have HX := Lib.hid (show Row6 wo lo (some ⟨ga, 0, none⟩) n c S by rw [hS.out]; exact HW.out)
      obtain ⟨q, hq⟩ : ∃ q, Hid (q = nth S k) := ⟨_, Lib.hid rfl⟩
      rw [← hq.out] at hck MISS
      by_cases h5 : q = 5
      · have E5 := Lib.hid h5
        have q5 : (q != 5) = false := by simp [h5]
        have q5' : (q == 5) = true := by simp [h5]
        have EL := endR_le S k
        have EI := Lib.hid (endR_in S k)
        have EH := endR_len S k (by rw [LS.out]; omega)
        rw [LS.out] at EH
        have XE := Lib.hid (show ¬ (endR S k < n ∧ nth S (endR S k) = 5) by
          have := endR_out S k
          rw [hasAt_nat, LS.out] at this
          exact of_decide_eq_false this)
        have EK : k < endR S k := by
          refine Nat.lt_of_le_of_ne EL fun e => XE.out ⟨by omega, ?_⟩
          rw [← e, ← hq.out]; exact h5
        obtain ⟨e, he⟩ : ∃ e, Hid (e = endR S k) := ⟨_, Lib.hid rfl⟩
        rw [← he.out] at EL EI EH XE EK
        clear h5 MISS hw EL
        go_wp2
        go_loop [3] (fun i => ∃ j : Nat, k ≤ j ∧ j ≤ e ∧ i = .int .i64 j) (fun i => e - (intOf i).toNat)
        case atStart => exact ⟨k, by omega, by omega, rfl⟩
        case round =>
          obtain ⟨j, hj1, hj2, rfl⟩ := hrel
          by_cases hje : j < e
          · have jn : j < n := by omega
            have hcj := own_cell HX.out j jn
            have v5 := EI.out j hj1 hje
            rw [hasAt_nat] at v5
            rw [(of_decide_eq_true v5).2] at hcj
            clear v5
            go_wp2
            go_round
            case rel => exact ⟨j + 1, by omega, by omega, by go_num⟩
            case measure => first | omega | (simp [intOf]; omega)
          · obtain rfl : e = j := by omega
            clear hj1 hj2 hje
            by_cases hk0 : k = 0
            · subst hk0
              by_cases hen : e < n
              · have hce := own_cell HX.out e hen
                obtain ⟨x, hx⟩ : ∃ x, Hid (x = nth S e) := ⟨_, Lib.hid rfl⟩
                rw [← hx.out] at hce
                have x5 : (x == 5) = false := by simpa using (show x ≠ 5 from fun h => XE.out ⟨hen, by rw [← hx.out]; exact h⟩)
                by_cases h3 : x = 3
                · have x3 : (x == 3) = true := by simp [h3]
                  have TY := Lib.hid (term_yes xs (i := 0) (by rw [← hS.out]; exact .inr ⟨by rw [← he.out, LS.out]; exact hen, by rw [← he.out, ← hx.out]; exact h3⟩))
                  rw [← hS.out, ← he.out] at TY
                  clear h3
                  go_wp2
                  go_loopw [4] (fun i wr => ∃ j : Nat, 0 ≤ j ∧ j ≤ e ∧ i = .int .i64 j ∧ Hid (Row6 wr lo (some ⟨ga, 0, none⟩) n c (stepN [5] fTerm xs j)) ∧ Hid (Below lo w wr)) (fun i _ => e - (intOf i).toNat)
                  case atStart => exact ⟨0, Nat.le_refl _, by omega, rfl, HW, hbr⟩
                  case round =>
                    obtain ⟨j, hj1, hj2, rfl, hw, hbr⟩ := hrel
                    have hsz : lo ≤ wr.heap.size := by have := hbr.out.size; omega
                    by_cases hlt : j < e
                    · have ST := Lib.hid (TY.out j hj1 hlt).2
                      have jn : j < n := by omega
                      go_wp2_with (refine wpList_put rfl _ _ _ rfl i0 hi hz1 j (.int .i64 3) rfl rfl rfl hw.out jn ?_; intro w3 o3 g3)
                      have R3 := Lib.hid (show Row6 w3 lo (some ⟨ga, 0, none⟩) n c (stepN [5] fTerm xs (j + 1)) by rw [ST.out]; exact own_set o3)
                      have B3 := Lib.hid (below_put hbr.out hw.out g3 hsz)
                      clear o3 g3
                      go_roundw
                      case rel => exact ⟨j + 1, by omega, by omega, by go_num, R3, B3⟩
                      case measure => first | omega | (simp [intOf]; omega)
                    · obtain rfl : j = e := by omega
                      go_wp2
                      go_roundw
                      case rel => exact ⟨j, by omega, by first | go_num | (congr 1; omega), hw, hbr⟩
                      case measure => first | omega | (simp [intOf]; omega)
                · have x3 : (x == 3) = false := by simpa using h3
                  have TN := Lib.hid (term_no xs (i := 0) (by rw [← hS.out]; rintro (⟨h0, _⟩ | ⟨_, h⟩); (exfalso; omega); rw [← he.out, ← hx.out] at h; exact h3 h))
                  rw [← hS.out, ← he.out] at TN
                  clear h3
                  have R3 := Lib.hid (show Row6 wo lo (some ⟨ga, 0, none⟩) n c (stepN [5] fTerm xs e) by rw [TN.out e (by omega) (Nat.le_refl _)]; exact HX.out)
                  go_wp2
                  go_roundw
                  case rel => exact ⟨e, by omega, by first | go_num | (congr 1; omega), R3, hbr⟩
                  case measure => first | omega | (simp [intOf]; omega)
              · have TN := Lib.hid (term_no xs (i := 0) (by rw [← hS.out]; rintro (⟨h0, _⟩ | ⟨h, _⟩); (exfalso; omega); rw [← he.out, LS.out] at h; exact hen h))
                rw [← hS.out, ← he.out] at TN
                have R3 := Lib.hid (show Row6 wo lo (some ⟨ga, 0, none⟩) n c (stepN [5] fTerm xs e) by rw [TN.out e (by omega) (Nat.le_refl _)]; exact HX.out)
                go_wp2
                go_roundw
                case rel => exact ⟨e, by omega, by first | go_num | (congr 1; omega), R3, hbr⟩
                case measure => first | omega | (simp [intOf]; omega)
            · obtain ⟨p, rfl⟩ : ∃ p, k = p + 1 := ⟨k - 1, by omega⟩
              have hcy := own_cell HX.out p (by omega)
              obtain ⟨y, hy⟩ : ∃ y, Hid (y = nth S p) := ⟨_, Lib.hid rfl⟩
              rw [← hy.out] at hcy
              by_cases hy3 : y = 3
              · have y3 : (y == 3) = true := by simp [hy3]
                have x5 : True := trivial
                have TY := Lib.hid (term_yes xs (i := (p + 1)) (by rw [← hS.out]; exact .inl ⟨by omega, by show nth S p = 3; rw [← hy.out]; exact hy3⟩))
                rw [← hS.out, ← he.out] at TY
                by_cases hen : e < n
                · have hce := own_cell HX.out e hen
                  obtain ⟨x, hx⟩ : ∃ x, Hid (x = nth S e) := ⟨_, Lib.hid rfl⟩
                  rw [← hx.out] at hce
                  have x5 : (x == 5) = false := by simpa using (show x ≠ 5 from fun h => XE.out ⟨hen, by rw [← hx.out]; exact h⟩)
                  go_wp2
                  go_loopw [4] (fun i wr => ∃ j : Nat, (p + 1) ≤ j ∧ j ≤ e ∧ i = .int .i64 j ∧ Hid (Row6 wr lo (some ⟨ga, 0, none⟩) n c (stepN [5] fTerm xs j)) ∧ Hid (Below lo w wr)) (fun i _ => e - (intOf i).toNat)
                  case atStart => exact ⟨(p + 1), Nat.le_refl _, by omega, rfl, HW, hbr⟩
                  case round =>
                    obtain ⟨j, hj1, hj2, rfl, hw, hbr⟩ := hrel
                    have hsz : lo ≤ wr.heap.size := by have := hbr.out.size; omega
                    by_cases hlt : j < e
                    · have ST := Lib.hid (TY.out j hj1 hlt).2
                      have jn : j < n := by omega
                      go_wp2_with (refine wpList_put rfl _ _ _ rfl i0 hi hz1 j (.int .i64 3) rfl rfl rfl hw.out jn ?_; intro w3 o3 g3)
                      have R3 := Lib.hid (show Row6 w3 lo (some ⟨ga, 0, none⟩) n c (stepN [5] fTerm xs (j + 1)) by rw [ST.out]; exact own_set o3)
                      have B3 := Lib.hid (below_put hbr.out hw.out g3 hsz)
                      clear o3 g3
                      go_roundw
                      case rel => exact ⟨j + 1, by omega, by omega, by go_num, R3, B3⟩
                      case measure => first | omega | (simp [intOf]; omega)
                    · obtain rfl : j = e := by omega
                      go_wp2
                      go_roundw
                      case rel => exact ⟨j, by omega, by first | go_num | (congr 1; omega), hw, hbr⟩
                      case measure => first | omega | (simp [intOf]; omega)
                · skip
                  go_wp2
                  go_loopw [4] (fun i wr => ∃ j : Nat, (p + 1) ≤ j ∧ j ≤ e ∧ i = .int .i64 j ∧ Hid (Row6 wr lo (some ⟨ga, 0, none⟩) n c (stepN [5] fTerm xs j)) ∧ Hid (Below lo w wr)) (fun i _ => e - (intOf i).toNat)
                  case atStart => exact ⟨(p + 1), Nat.le_refl _, by omega, rfl, HW, hbr⟩
                  case round =>
                    obtain ⟨j, hj1, hj2, rfl, hw, hbr⟩ := hrel
                    have hsz : lo ≤ wr.heap.size := by have := hbr.out.size; omega
                    by_cases hlt : j < e
                    · have ST := Lib.hid (TY.out j hj1 hlt).2
                      have jn : j < n := by omega
                      go_wp2_with (refine wpList_put rfl _ _ _ rfl i0 hi hz1 j (.int .i64 3) rfl rfl rfl hw.out jn ?_; intro w3 o3 g3)
                      have R3 := Lib.hid (show Row6 w3 lo (some ⟨ga, 0, none⟩) n c (stepN [5] fTerm xs (j + 1)) by rw [ST.out]; exact own_set o3)
                      have B3 := Lib.hid (below_put hbr.out hw.out g3 hsz)
                      clear o3 g3
                      go_roundw
                      case rel => exact ⟨j + 1, by omega, by omega, by go_num, R3, B3⟩
                      case measure => first | omega | (simp [intOf]; omega)
                    · obtain rfl : j = e := by omega
                      go_wp2
                      go_roundw
                      case rel => exact ⟨j, by omega, by first | go_num | (congr 1; omega), hw, hbr⟩
                      case measure => first | omega | (simp [intOf]; omega)
              · have y3 : (y == 3) = false := by simpa using hy3
                by_cases hen : e < n
                · have hce := own_cell HX.out e hen
                  obtain ⟨x, hx⟩ : ∃ x, Hid (x = nth S e) := ⟨_, Lib.hid rfl⟩
                  rw [← hx.out] at hce
                  have x5 : (x == 5) = false := by simpa using (show x ≠ 5 from fun h => XE.out ⟨hen, by rw [← hx.out]; exact h⟩)
                  by_cases h3 : x = 3
                  · have x3 : (x == 3) = true := by simp [h3]
                    have TY := Lib.hid (term_yes xs (i := (p + 1)) (by rw [← hS.out]; exact .inr ⟨by rw [← he.out, LS.out]; exact hen, by rw [← he.out, ← hx.out]; exact h3⟩))
                    rw [← hS.out, ← he.out] at TY
                    clear h3
                    go_wp2
                    go_loopw [4] (fun i wr => ∃ j : Nat, (p + 1) ≤ j ∧ j ≤ e ∧ i = .int .i64 j ∧ Hid (Row6 wr lo (some ⟨ga, 0, none⟩) n c (stepN [5] fTerm xs j)) ∧ Hid (Below lo w wr)) (fun i _ => e - (intOf i).toNat)
                    case atStart => exact ⟨(p + 1), Nat.le_refl _, by omega, rfl, HW, hbr⟩
                    case round =>
                      obtain ⟨j, hj1, hj2, rfl, hw, hbr⟩ := hrel
                      have hsz : lo ≤ wr.heap.size := by have := hbr.out.size; omega
                      by_cases hlt : j < e
                      · have ST := Lib.hid (TY.out j hj1 hlt).2
                        have jn : j < n := by omega
                        go_wp2_with (refine wpList_put rfl _ _ _ rfl i0 hi hz1 j (.int .i64 3) rfl rfl rfl hw.out jn ?_; intro w3 o3 g3)
                        have R3 := Lib.hid (show Row6 w3 lo (some ⟨ga, 0, none⟩) n c (stepN [5] fTerm xs (j + 1)) by rw [ST.out]; exact own_set o3)
                        have B3 := Lib.hid (below_put hbr.out hw.out g3 hsz)
                        clear o3 g3
                        go_roundw
                        case rel => exact ⟨j + 1, by omega, by omega, by go_num, R3, B3⟩
                        case measure => first | omega | (simp [intOf]; omega)
                      · obtain rfl : j = e := by omega
                        go_wp2
                        go_roundw
                        case rel => exact ⟨j, by omega, by first | go_num | (congr 1; omega), hw, hbr⟩
                        case measure => first | omega | (simp [intOf]; omega)
                  · have x3 : (x == 3) = false := by simpa using h3
                    have TN := Lib.hid (term_no xs (i := (p + 1)) (by rw [← hS.out]; rintro (⟨_, h⟩ | ⟨_, h⟩); (exact hy3 (hy.out.trans (show nth S p = 3 from h))); rw [← he.out, ← hx.out] at h; exact h3 h))
                    rw [← hS.out, ← he.out] at TN
                    clear h3
                    have R3 := Lib.hid (show Row6 wo lo (some ⟨ga, 0, none⟩) n c (stepN [5] fTerm xs e) by rw [TN.out e (by omega) (Nat.le_refl _)]; exact HX.out)
                    go_wp2
                    go_roundw
                    case rel => exact ⟨e, by omega, by first | go_num | (congr 1; omega), R3, hbr⟩
                    case measure => first | omega | (simp [intOf]; omega)
                · have TN := Lib.hid (term_no xs (i := (p + 1)) (by rw [← hS.out]; rintro (⟨_, h⟩ | ⟨h, _⟩); (exact hy3 (hy.out.trans (show nth S p = 3 from h))); rw [← he.out, LS.out] at h; exact hen h))
                  rw [← hS.out, ← he.out] at TN
                  have R3 := Lib.hid (show Row6 wo lo (some ⟨ga, 0, none⟩) n c (stepN [5] fTerm xs e) by rw [TN.out e (by omega) (Nat.le_refl _)]; exact HX.out)
                  go_wp2
                  go_roundw
                  case rel => exact ⟨e, by omega, by first | go_num | (congr 1; omega), R3, hbr⟩
                  case measure => first | omega | (simp [intOf]; omega)
      · have E := Lib.hid (MISS.out h5)
        have q5 : (q != 5) = true := by simpa using h5
        have R3 := Lib.hid (show Row6 wo lo (some ⟨ga, 0, none⟩) n c (stepN [5] fTerm xs (k + 1)) by rw [E.out]; exact HX.out)
        clear h5 MISS hw
        go_wp2
        go_roundw
        case rel => exact ⟨k + 1, by omega, by go_num, R3, hbr⟩
        case measure => first | omega | (simp [intOf]; omega)
    · obtain rfl : k = n := by omega
      have R3 := Lib.hid (show Row6 wo lo A k c (termW xs) by unfold termW doStep; rw [← HN.out]; exact hw.out)
      clear hw
      go_wp2
      go_end0
      exact ⟨⟨rfl, R3.out⟩, hbr.out⟩
end Go.Proofs.YtkkojemnbcddfaaDoor

namespace Go.Proofs.YtkkojemnbcddfaaDoor
open Go.RowKit

set_option maxRecDepth 100000 in
set_option maxHeartbeats 8000000 in
theorem l6Signs_any (v : Value) (xs : List Int) (s : Int) (w : World) (B : Nat) (h : Sees w B .i64 v xs) (hB : B ≤ w.heap.size) (hl : xs.length ≤ 600) :
    Calls Tryd.prog 100 #[v, .int .i64 s] w fun e w' => (∃ u, e = .returned u ∧ Own w' w.heap.size w'.heap.size 2 .i64 u (signsW xs s)) ∧ Below w.heap.size w w' := by
  obtain ⟨i0, hi, hz0, hz1, hz2⟩ := info_parts info_int64
  obtain ⟨A0, c0, rfl, hr⟩ := h
  have HS := Lib.hid (show Sees w B .i64 (.slice A0 xs.length c0) xs from ⟨A0, c0, rfl, hr⟩)
  clear hr
  go_enter Tryd.func100, Tryd.ntmps100
  go_wp2_with fail
  refine (l1Ints_own _ xs w B HS.out hB (by omega)).mono ?_
  rintro e w1 ⟨⟨u, rfl, o1⟩, b1⟩
  obtain ⟨A, c, rfl⟩ := o1.form
  obtain ⟨n, hn⟩ : ∃ n, Hid (n = xs.length) := ⟨_, Lib.hid rfl⟩
  have R1 := Lib.hid o1.1
  rw [← hn.out] at R1 hl ⊢
  have R1 : Hid (Row6 w1 w.heap.size A n c xs) := R1
  have B1 := Lib.hid b1
  have s1 := b1.size
  clear o1 b1
  go_wp2_with fail
  refine (l6Between_any w1 w.heap.size A n c xs R1.out s1 hl hn.out).mono ?_
  rintro e w2 ⟨⟨rfl, r2⟩, b2⟩
  have R2 := Lib.hid r2
  have B2 := Lib.hid (B1.out.trans b2)
  have s2 := b2.size
  clear r2 b2 R1 B1
  go_wp2_with fail
  refine (l6Terms_any w2 w.heap.size A n c (sepW xs) R2.out (by omega) hl (by unfold sepW; rw [doStep_len]; exact hn.out)).mono ?_
  rintro e w3 ⟨⟨rfl, r3⟩, b3⟩
  have B3 := Lib.hid (B2.out.trans b3)
  obtain ⟨ys, hys⟩ : ∃ ys, Hid (ys = termW (sepW xs)) := ⟨_, Lib.hid rfl⟩
  rw [← hys.out] at r3
  have R3 := Lib.hid (show Row6 w3 w.heap.size A n c (stepN [3, 4, 5, 7] (fEnd s) ys 0) from r3)
  have YL := Lib.hid (show n = ys.length by rw [hys.out]; unfold termW sepW; rw [doStep_len, doStep_len]; exact hn.out)
  have FIN := Lib.hid (show signsW xs s = stepN [3, 4, 5, 7] (fEnd s) ys n by unfold signsW; rw [← hys.out, end_both]; unfold doStep; rw [← YL.out])
  clear r3 b3 R2 B2
  go_wp2
  go_loopw [6, 7] (fun l i wr => ∃ k : Nat, k ≤ n ∧ i = .int .i64 k ∧ l = .int .i64 (lastA [0, 1] s (stepN [3, 4, 5, 7] (fEnd s) ys k) k) ∧ Hid (Row6 wr w.heap.size A n c (stepN [3, 4, 5, 7] (fEnd s) ys k)) ∧ Hid (Below w.heap.size w wr)) (fun _ i _ => n - (intOf i).toNat)
  case atStart => exact ⟨0, by omega, rfl, rfl, R3, B3⟩
  case round =>
    clear R3 B3
    obtain ⟨k, hk, rfl, rfl, hw, hbr⟩ := hrel
    by_cases hlt : k < n
    · obtain ⟨ga, ca, eA, hga⟩ := own_addr hw.out (by omega)
      injection eA with eA e2 e3
      subst eA; subst e3
      clear e2
      have hc0 := own_cell hw.out k hlt
      have STR := Lib.hid (fun h => end_strong ys s (k := k) h)
      have OTH := Lib.hid (fun h => end_other ys s (k := k) h)
      have EN := Lib.hid (fun h => end_en ys s (k := k) (by rw [← YL.out]; exact hlt) h)
      have RST := Lib.hid (fun h => end_rest ys s (k := k) (by rw [← YL.out]; exact hlt) h)
      have hbsz := hbr.out.size
      obtain ⟨S, hS⟩ : ∃ S, Hid (S = stepN [3, 4, 5, 7] (fEnd s) ys k) := ⟨_, Lib.hid rfl⟩
      rw [← hS.out] at hc0 STR OTH EN RST hw ⊢
      obtain ⟨q, hq⟩ : ∃ q, Hid (q = nth S k) := ⟨_, Lib.hid rfl⟩
      obtain ⟨a, ha⟩ : ∃ a, Hid (a = lastA [0, 1] s S k) := ⟨_, Lib.hid rfl⟩
      rw [← hq.out] at hc0 STR OTH EN RST
      rw [← ha.out] at OTH EN RST ⊢
      obtain ⟨S', hS'⟩ : ∃ S', Hid (S' = stepN [3, 4, 5, 7] (fEnd s) ys (k + 1)) := ⟨_, Lib.hid rfl⟩
      rw [← hS'.out] at STR OTH EN RST
      by_cases h3 : q = 3
      · have E := Lib.hid (EN.out h3)
        subst h3
        clear STR OTH EN RST
        by_cases h2 : a = 0
        · have R0 := Lib.hid (show S' = S.set k 0 by rw [E.out.1, if_pos h2])
          have L0 := Lib.hid (E.out.2)
          have b2 : (a == 0) = true := by simp [h2]
          clear h2
          go_wp2_with (refine wpList_put rfl _ _ _ rfl i0 hi hz1 k (.int .i64 0) rfl rfl rfl hw.out hlt ?_; intro w4 o4 g4)
          have R3 := Lib.hid (show Row6 w4 w.heap.size (some ⟨ga, 0, none⟩) n c (stepN [3, 4, 5, 7] (fEnd s) ys (k + 1)) by rw [← hS'.out, R0.out]; exact own_set o4)
          have B3 := Lib.hid (below_put hbr.out hw.out g4 hbsz)
          clear o4 g4
          go_roundw
          case rel => exact ⟨k + 1, by omega, by go_num, by rw [← hS'.out, L0.out], R3, B3⟩
          case measure => first | omega | (simp [intOf]; omega)
        · have R0 := Lib.hid (show S' = S by rw [E.out.1, if_neg h2])
          have L0 := Lib.hid (E.out.2)
          have b2 : (a == 0) = false := by simpa using h2
          have R3 := Lib.hid (show Row6 wr w.heap.size (some ⟨ga, 0, none⟩) n c (stepN [3, 4, 5, 7] (fEnd s) ys (k + 1)) by rw [← hS'.out, R0.out]; exact hw.out)
          clear h2
          go_wp2
          go_roundw
          case rel => exact ⟨k + 1, by omega, by go_num, by rw [← hS'.out, L0.out], R3, hbr⟩
          case measure => first | omega | (simp [intOf]; omega)
      · by_cases hst : q = 0 ∨ q = 1
        · have E := Lib.hid (STR.out hst)
          have R3 := Lib.hid (show Row6 wr w.heap.size (some ⟨ga, 0, none⟩) n c (stepN [3, 4, 5, 7] (fEnd s) ys (k + 1)) by rw [← hS'.out, E.out.1]; exact hw.out)
          have L3 := Lib.hid (show lastA [0, 1] s (stepN [3, 4, 5, 7] (fEnd s) ys (k + 1)) (k + 1) = q by rw [← hS'.out, E.out.2])
          clear STR OTH EN RST E h3
          rcases hst with rfl | rfl
          all_goals
            go_wp2
            go_roundw
            case rel => exact ⟨k + 1, by omega, by go_num, by rw [L3.out], R3, hbr⟩
            case measure => first | omega | (simp [intOf]; omega)
        · by_cases hr : q = 4 ∨ q = 5 ∨ q = 7
          · have E := Lib.hid (RST.out hr)
            clear STR OTH EN RST h3 hst
            rcases hr with rfl | rfl | rfl
            all_goals
              go_wp2_with (refine wpList_put rfl _ _ _ rfl i0 hi hz1 k (.int .i64 13) rfl rfl rfl hw.out hlt ?_; intro w4 o4 g4)
              have R3 := Lib.hid (show Row6 w4 w.heap.size (some ⟨ga, 0, none⟩) n c (stepN [3, 4, 5, 7] (fEnd s) ys (k + 1)) by rw [← hS'.out, E.out.1]; exact own_set o4)
              have B3 := Lib.hid (below_put hbr.out hw.out g4 hbsz)
              clear o4 g4
              go_roundw
              case rel => exact ⟨k + 1, by omega, by go_num, by rw [← hS'.out, E.out.2], R3, B3⟩
              case measure => first | omega | (simp [intOf]; omega)
          · have E := Lib.hid (OTH.out (by simp; omega))
            have R3 := Lib.hid (show Row6 wr w.heap.size (some ⟨ga, 0, none⟩) n c (stepN [3, 4, 5, 7] (fEnd s) ys (k + 1)) by rw [← hS'.out, E.out.1]; exact hw.out)
            have L3 := Lib.hid (show lastA [0, 1] s (stepN [3, 4, 5, 7] (fEnd s) ys (k + 1)) (k + 1) = a by rw [← hS'.out, E.out.2])
            have n0 : (q == 0) = false := by simp; omega
            have n1 : (q == 1) = false := by simp; omega
            have n3 : (q == 3) = false := by simp; omega
            have n4 : (q == 4) = false := by simp; omega
            have n5 : (q == 5) = false := by simp; omega
            have n7 : (q == 7) = false := by simp; omega
            clear STR OTH EN RST E h3 hst hr
            go_wp2
            go_roundw
            case rel => exact ⟨k + 1, by omega, by go_num, by rw [L3.out], R3, hbr⟩
            case measure => first | omega | (simp [intOf]; omega)
    · obtain rfl : k = n := by omega
      have HO := Lib.hid (show Own wr w.heap.size wr.heap.size 2 .i64 (.slice A k c) (signsW xs s) from Own.mk_ (by rw [FIN.out]; exact hw.out) (by rw [signsW_len]; exact hn.out))
      go_wp2
      go_ret
      exact ⟨⟨_, rfl, HO.out⟩, hbr.out⟩
set_option maxRecDepth 100000 in
set_option maxHeartbeats 1000000 in
theorem l6Weak_any (v : Value) (xs : List Int) (s : Int) (w : World) (B : Nat) (h : Sees w B .i64 v xs) (hB : B ≤ w.heap.size) (hl : xs.length ≤ 600) :
    Calls Tryd.prog 84 #[v, .int .i64 s] w fun e w' => (∃ u, e = .returned u ∧ Own w' w.heap.size w'.heap.size 2 .i64 u (weakW xs s)) ∧ Below w.heap.size w w' := by
  have HS := Lib.hid h
  obtain ⟨A0, c0, rfl, _⟩ := h
  have E := Lib.hid (show weakW xs s = signsW (numsW (marksW xs s) s) s from rfl)
  go_enter Tryd.func84, Tryd.ntmps84
  go_wp2_with fail
  refine (l6Marks_any _ xs s w B HS.out hB hl).mono ?_
  rintro e w1 ⟨⟨u1, rfl, o1⟩, b1⟩
  obtain ⟨A1, c1, rfl⟩ := o1.form
  have O1 := Lib.hid o1
  have B1 := Lib.hid b1
  have s1 := b1.size
  clear o1 b1
  go_wp2_with fail
  refine (l6Numbers_any _ (marksW xs s) s w1 _ O1.out.sees (Nat.le_refl _) (by rw [marksW_len]; exact hl)).mono ?_
  rintro e w2 ⟨⟨u2, rfl, o2⟩, b2⟩
  obtain ⟨A2, c2, rfl⟩ := o2.form
  have O2 := Lib.hid o2
  have B2 := Lib.hid (below_on B1.out b2 (by omega))
  have s2 := b2.size
  clear o2 b2
  go_wp2_with fail
  refine (l6Signs_any _ (numsW (marksW xs s) s) s w2 _ O2.out.sees (Nat.le_refl _) (by rw [numsW_len, marksW_len]; exact hl)).mono ?_
  rintro e w3 ⟨⟨u3, rfl, o3⟩, b3⟩
  obtain ⟨A3, c3, rfl⟩ := o3.form
  have O3 := Lib.hid (o3.more (by omega : w.heap.size ≤ w2.heap.size) (Nat.le_refl _))
  have B3 := Lib.hid (below_on B2.out b3 (by omega))
  rw [← E.out] at O3
  clear o3 b3
  go_wp2
  go_ret
  exact ⟨⟨_, rfl, O3.out⟩, B3.out⟩
end Go.Proofs.YtkkojemnbcddfaaDoor

namespace Go.Proofs.YtkkojemnbcddfaaDoor
open Go.RowKit Go.Maps

def classN (c : Int) : Int :=
  if c = 10 ∨ c = 13 ∨ c = 8233 then 10 else if c = 9 then 11 else if c = 32 then 12 else if 48 ≤ c ∧ c ≤ 57 then 3 else if c = 43 ∨ c = 45 then 4 else if 35 ≤ c ∧ c ≤ 37 then 5
  else if c = 44 ∨ c = 46 ∨ c = 47 ∨ c = 58 then 7 else if (65 ≤ c ∧ c ≤ 90) ∨ (97 ≤ c ∧ c ≤ 122) then 0 else if (0 ≤ c ∧ c ≤ 31) ∨ (127 ≤ c ∧ c ≤ 159) ∨ c = 173 ∨ c = 8203 then 9
  else if 33 ≤ c ∧ c ≤ 191 then 13 else if (768 ≤ c ∧ c ≤ 879) ∨ (1611 ≤ c ∧ c ≤ 1618) then 8 else if 1488 ≤ c ∧ c ≤ 1514 then 1 else if 1569 ≤ c ∧ c ≤ 1610 then 2 else if 1632 ≤ c ∧ c ≤ 1641 then 6
  else if 8234 ≤ c ∧ c ≤ 8238 then 14 + (c - 8234) else if 8294 ≤ c ∧ c ≤ 8297 then 19 + (c - 8294) else if c = 9001 ∨ c = 9002 ∨ c = 12296 ∨ c = 12297 ∨ c = 65533 then 13 else 0
theorem classN_in {c : Int} (h : 0 ≤ c) : 0 ≤ classN c ∧ classN c ≤ 22 := by
  unfold classN
  repeat (first | omega | split)
set_option maxRecDepth 100000 in
set_option maxHeartbeats 1000000 in
theorem l2Ascii_any (c : Int) (w : World) (h0 : 0 ≤ c) (h1 : c < 192) :
    Calls Tryd.prog 99 #[.int .i64 c] w fun e w' => e = .returned (.int .i64 (classN c)) ∧ w = w' := by
  go_enter Tryd.func99, Tryd.ntmps99
  go_wp2_with (go_at_call 43; refine (l1In_any _ _ _ _).mono ?_; rintro e w' ⟨rfl, rfl⟩)
  all_goals
    go_ret
    refine ⟨rint ?_, rfl⟩
    try simp only [beq_iff_eq, beq_eq_false_iff_ne, ne_eq] at *
    unfold classN
    repeat (first | rw [if_pos (by omega)] | rw [if_neg (by omega)])

set_option maxRecDepth 100000 in
set_option maxHeartbeats 1000000 in
theorem l2Class_any (c : Int) (w : World) (h0 : 0 ≤ c) :
    Calls Tryd.prog 83 #[.int .i64 c] w fun e w' => e = .returned (.int .i64 (classN c)) ∧ w = w' := by
  by_cases h1 : c < 192
  · go_enter Tryd.func83, Tryd.ntmps83
    go_wp2_with (go_at_call 99; refine (l2Ascii_any _ _ h0 h1).mono ?_; rintro e w' ⟨rfl, rfl⟩)
    go_ret
    exact ⟨rfl, rfl⟩
  · go_enter Tryd.func83, Tryd.ntmps83
    go_wp2_with (go_at_call 43; refine (l1In_any _ _ _ _).mono ?_; rintro e w' ⟨rfl, rfl⟩)
    all_goals
      go_ret
      refine ⟨rint ?_, rfl⟩
      try simp only [beq_iff_eq, beq_eq_false_iff_ne, ne_eq] at *
      unfold classN
      repeat (first | rw [if_pos (by omega)] | rw [if_neg (by omega)])
    all_goals omega
end Go.Proofs.YtkkojemnbcddfaaDoor

namespace Go.Proofs.YtkkojemnbcddfaaDoor
open Go.RowKit

/-- append as a step of a region that draws -/
theorem step_apps {P : Program} {w : World} {ops : Array Oper} {o : Oper} {a : Act} {K : Act → World → Prop} {Q : Exit → Act → World → Prop} {E : Prop} (hw : Region.wanted o (yielded ops a.tmps) = true) (s x : Operand) (t : TypeId)
    (ho : o.op = .call { callee := .builtin .append, args := #[s, x], argTypes := #[t, t] })
    (base : Nat) {e : TypeId} {i : TypeInfo} {z : Value} {size bytes : Nat} (ht : P.underlying t = some (.slice e)) (hi : P.info? e = some i) (hz : i.zero = some z)
    (hsize : i.size = size) (hby : i.bytes = bytes) (hzs : z.cells.size = size) (hsz : 0 < size)
    {v : Value} {n : Nat} {xs : List Value} (hs : a.eval s = v) (hown : w.ownsRow base e size v n xs)
    {B : Nat} {A : Option Addr} {m c : Nat} {news : List Value} (hx : a.eval x = .slice A m c) (hr : Rd w B A news) (hl : news.length = m * size) (h1 : ∀ u ∈ news, u.oneCell' = true)
    (hn : (n + m) * bytes ≤ 140737488355328) (hm : n + m ≤ 140737488355328) (hbase : base ≤ w.heap.size)
    (h : ∀ v' w', w'.ownsRow base e size v' (n + m) (xs ++ news) → w.grownBy w' v.ownBlock → (v'.ownBlock = v.ownBlock ∨ v'.ownBlock = some w.heap.size) → K (a.put o.dst v') w') :
    if Region.wanted o (yielded ops a.tmps) = true then Oper.wp P o a w K Q else E := by
  have key : ∃ v' w', (Builtin.append_ #[t, t] o.type #[v, .slice A m c]).run P w = .ok v' w' ∧ w'.ownsRow base e size v' (n + m) (xs ++ news) ∧ w.grownBy w' v.ownBlock ∧ (v'.ownBlock = v.ownBlock ∨ v'.ownBlock = some w.heap.size) := by
    match A, hr with
    | some ad, hr =>
      obtain ⟨v', w', h2, h3, h4, _, h5⟩ := run_append_own_at (P := P) w base t o.type e i z size bytes ht hi hz hsize hby hzs hsz v n xs hown ad m c news hl hr.cells h1 (by unfold maxLen; omega) hn hbase
      exact ⟨v', w', h2, h3, h4, h5⟩
    | none, hr =>
      have hnews : news = [] := by
        cases news with
        | nil => rfl
        | cons y ys =>
          obtain ⟨_, _, e', _⟩ := hr 0 y rfl
          cases e'
      subst hnews
      obtain rfl : m = 0 := by
        rcases Nat.eq_zero_or_pos m with h0 | h0
        · exact h0
        · have := Nat.mul_pos h0 hsz
          simp at hl
          omega
      exact ⟨v, w, run_app_none w base t o.type e i size ht hi v n xs hown c, by simpa using hown, World.grownBy.refl w _, .inl rfl⟩
  obtain ⟨v', w', hrun, h2, h3, h4⟩ := key
  rw [if_pos hw]
  unfold Oper.wp execOp
  simp only [ho, resolve, invoke, builtin, Sem.run_bind, Sem.run_pure, Result.andThen_ok, List.map_toArray, List.map_cons, List.map_nil, hs, hx, hrun]
  exact h v' w' h2 h3 h4
/-- an operation as a step of a region that draws -/
theorem step_call {P : Program} {w : World} {ops : Array Oper} {o : Oper} {a : Act} {K : Act → World → Prop} {Q : Exit → Act → World → Prop} {E : Prop} (hw : Region.wanted o (yielded ops a.tmps) = true) (h : Oper.wp P o a w K Q) :
    if Region.wanted o (yielded ops a.tmps) = true then Oper.wp P o a w K Q else E := by
  rw [if_pos hw]; exact h
end Go.Proofs.YtkkojemnbcddfaaDoor

namespace Go.Proofs.YtkkojemnbcddfaaDoor
open Go.RowKit

theorem Out.set {lo hi : Nat} {a w : World} (h : Out lo hi a w) (p : Addr) (v : Value) (hp : a.heap.size ≤ p.block) : Out lo hi a (w.setCell p v) :=
  ⟨h.os, h.tape, h.output, by simpa using h.size, fun k hk hn => (heap_setCell_other w p k v (by omega)).trans (h.block k hk hn)⟩
/-- what is drawn so far: small numbers, not many -/
structure Few (p : Prt) (m : Nat) : Prop where
  t : Drawn p.T
  f : Drawn p.F
  n : Drawn p.N
  lt : p.T.length ≤ m
  lf : p.F.length ≤ m
  ln : p.N.length ≤ m
  l : -1 ≤ p.L ∧ p.L ≤ 127
  s : -1 ≤ p.S ∧ p.S ≤ 127
  e : -1 ≤ p.E ∧ p.E ≤ 127
/-- a part under way, behind a pointer, and the source -/
structure DP (w : World) (g gp : Nat) (zs : List Int) (at_ : Int) (u0 u1 u2 : Value) (p : Prt) : Prop where
  blk : Blk w gp 26 #[u0, u1, u2, .int .i64 p.L, .int .i64 p.S, .int .i64 p.E]
  own : OwnPart w (gp + 1) w.heap.size 2 u0 u1 u2 p
  src : Src w g zs at_
  lt : g < gp
section
variable {w w' : World} {g gp : Nat} {zs : List Int} {at_ at2 : Int} {u0 u1 u2 : Value} {p : Prt}
theorem OwnPart.moreP {lo hi hi' : Nat} {t : TypeId} (h : OwnPart w lo hi t u0 u1 u2 p) (hh : hi ≤ hi') : OwnPart w lo hi' t u0 u1 u2 p :=
  ⟨h.o0.more (Nat.le_refl _) hh, h.o1.more (Nat.le_refl _) hh, h.o2.more (Nat.le_refl _) hh, h.d01, h.d02, h.d10, h.d12, h.d20, h.d21⟩
theorem OwnPart.outP {lo hi lo' hi' : Nat} {t : TypeId} (h : OwnPart w lo hi t u0 u1 u2 p) (ho : Out lo' hi' w w') (hd : hi ≤ lo' ∨ hi' ≤ lo) : OwnPart w' lo hi t u0 u1 u2 p :=
  ⟨h.o0.out ho hd, h.o1.out ho hd, h.o2.out ho hd, h.d01, h.d02, h.d10, h.d12, h.d20, h.d21⟩
theorem OwnPart.wide {lo lo' hi : Nat} {t : TypeId} (h : OwnPart w lo hi t u0 u1 u2 p) (hh : lo' ≤ lo) : OwnPart w lo' hi t u0 u1 u2 p :=
  ⟨h.o0.more hh (Nat.le_refl _), h.o1.more hh (Nat.le_refl _), h.o2.more hh (Nat.le_refl _), h.d01, h.d02, h.d10, h.d12, h.d20, h.d21⟩
/-- behind a call that turns the source alone -/
theorem DP.call (h : DP w g gp zs at_ u0 u1 u2 p) (ho : Out g (g + 1) w w') (hs : Src w' g zs at2) : DP w' g gp zs at2 u0 u1 u2 p :=
  ⟨h.blk.out ho (.inr h.lt), (h.own.outP ho (.inr (by have := h.lt; omega))).moreP ho.size, hs, h.lt⟩
theorem DP.alloc (h : DP w g gp zs at_ u0 u1 u2 p) (o : Obj) : DP (w.alloc o) g gp zs at_ u0 u1 u2 p :=
  h.call ((Out.refl g (g + 1) w).alloc o) (h.src.alloc o)
theorem DP.drew (h : DP w g gp zs at_ u0 u1 u2 p) (n : Nat) : DP (w.drewN n) g gp zs at_ u0 u1 u2 p := ⟨h.blk, ⟨h.own.o0, h.own.o1, h.own.o2, h.own.d01, h.own.d02, h.own.d10, h.own.d12, h.own.d20, h.own.d21⟩, h.src, h.lt⟩
end
/-- a field grown by an append -/
theorem apart_new {w w5 : World} {v v' u : Value} {t : TypeId} {lo : Nat} {kd : IntKind} {xs : List Int} (a5 : v'.ownBlock = v.ownBlock ∨ v'.ownBlock = some w.heap.size) (hu : Own w lo w.heap.size t kd u xs) (hd : v.ownBlock = none ∨ v.ownBlock ≠ u.ownBlock) : v'.ownBlock = none ∨ v'.ownBlock ≠ u.ownBlock := by
  rcases a5 with e | e
  · rw [e]; exact hd
  · refine .inr fun h => ?_
    rw [e] at h
    have := hu.2 _ h.symm
    omega
theorem DP.app0 {w w5 : World} {g gp : Nat} {zs : List Int} {at_ : Int} {u0 u1 u2 v' : Value} {p : Prt} {news : List Int} {m : Nat} (h : DP w g gp zs at_ u0 u1 u2 p) (o5 : w5.ownsRow (gp + 1) 2 1 v' (p.T.length + m) (nums .i64 p.T ++ nums .i64 news)) (hm : news.length = m) (g5 : w.grownBy w5 u0.ownBlock) (a5 : v'.ownBlock = u0.ownBlock ∨ v'.ownBlock = some w.heap.size) :
    DP (w5.setCell ⟨gp, 0, none⟩ v') g gp zs at_ v' u1 u2 { p with T := p.T ++ news } := by
  have lt := h.lt
  have own : ∀ b, u0.ownBlock = some b → gp + 1 ≤ b := fun b hb => (h.own.o0.lt b hb).1
  have oN : Own (w5.setCell ⟨gp, 0, none⟩ v') (gp + 1) w5.heap.size 2 .i64 v' (p.T ++ news) := (Own.mk_ (n := p.T.length + m) (zs := p.T ++ news) (by simpa [nums] using o5) (by simp [hm])).set _ _ (.inl (by show gp < gp + 1; omega))
  have h1 : Own (w5.setCell ⟨gp, 0, none⟩ v') (gp + 1) w5.heap.size 2 .i64 u1 _ := ((h.own.o1.grown g5 h.own.d10).more (Nat.le_refl _) g5.size).set _ _ (.inl (by show gp < gp + 1; omega))
  have h2 : Own (w5.setCell ⟨gp, 0, none⟩ v') (gp + 1) w5.heap.size 2 .i64 u2 _ := ((h.own.o2.grown g5 h.own.d20).more (Nat.le_refl _) g5.size).set _ _ (.inl (by show gp < gp + 1; omega))
  have n01 := apart_new (w5 := w5) a5 h.own.o1 h.own.d01
  have n02 := apart_new (w5 := w5) a5 h.own.o2 h.own.d02
  have bl : Blk w5 gp 26 _ := (g5.block gp h.blk.lt (by intro e; have := own gp e.symm; omega)).trans h.blk
  have sz : (w5.setCell ⟨gp, 0, none⟩ v').heap.size = w5.heap.size := by simp
  exact ⟨bl.set 0 v', by rw [sz]; exact ⟨oN, h1, h2, n01, n02, own_ne_symm n01, h.own.d12, own_ne_symm n02, h.own.d21⟩, by
    have s5 : Src w5 g zs at_ := h.src.out (Out.of_grown (lo := gp + 1) (hi := w.heap.size) g5 fun b hb => h.own.o0.lt b hb) (by omega)
    exact s5.out (lo := gp) (hi := gp + 1) ⟨rfl, rfl, rfl, by simp, fun k hk hn => heap_setCell_other w5 _ k v' (by show k ≠ gp; omega)⟩ lt, lt⟩
theorem DP.app1 {w w5 : World} {g gp : Nat} {zs : List Int} {at_ : Int} {u0 u1 u2 v' : Value} {p : Prt} {news : List Int} {m : Nat} (h : DP w g gp zs at_ u0 u1 u2 p) (o5 : w5.ownsRow (gp + 1) 2 1 v' (p.F.length + m) (nums .i64 p.F ++ nums .i64 news)) (hm : news.length = m) (g5 : w.grownBy w5 u1.ownBlock) (a5 : v'.ownBlock = u1.ownBlock ∨ v'.ownBlock = some w.heap.size) :
    DP (w5.setCell ⟨gp, 1, none⟩ v') g gp zs at_ u0 v' u2 { p with F := p.F ++ news } := by
  have lt := h.lt
  have own : ∀ b, u1.ownBlock = some b → gp + 1 ≤ b := fun b hb => (h.own.o1.lt b hb).1
  have oN : Own (w5.setCell ⟨gp, 1, none⟩ v') (gp + 1) w5.heap.size 2 .i64 v' (p.F ++ news) := (Own.mk_ (n := p.F.length + m) (zs := p.F ++ news) (by simpa [nums] using o5) (by simp [hm])).set _ _ (.inl (by show gp < gp + 1; omega))
  have h1 : Own (w5.setCell ⟨gp, 1, none⟩ v') (gp + 1) w5.heap.size 2 .i64 u0 _ := ((h.own.o0.grown g5 h.own.d01).more (Nat.le_refl _) g5.size).set _ _ (.inl (by show gp < gp + 1; omega))
  have h2 : Own (w5.setCell ⟨gp, 1, none⟩ v') (gp + 1) w5.heap.size 2 .i64 u2 _ := ((h.own.o2.grown g5 h.own.d21).more (Nat.le_refl _) g5.size).set _ _ (.inl (by show gp < gp + 1; omega))
  have n01 := apart_new (w5 := w5) a5 h.own.o0 h.own.d10
  have n02 := apart_new (w5 := w5) a5 h.own.o2 h.own.d12
  have bl : Blk w5 gp 26 _ := (g5.block gp h.blk.lt (by intro e; have := own gp e.symm; omega)).trans h.blk
  have sz : (w5.setCell ⟨gp, 1, none⟩ v').heap.size = w5.heap.size := by simp
  exact ⟨bl.set 1 v', by rw [sz]; exact ⟨h1, oN, h2, own_ne_symm n01, h.own.d02, n01, n02, h.own.d20, own_ne_symm n02⟩, by
    have s5 : Src w5 g zs at_ := h.src.out (Out.of_grown (lo := gp + 1) (hi := w.heap.size) g5 fun b hb => h.own.o1.lt b hb) (by omega)
    exact s5.out (lo := gp) (hi := gp + 1) ⟨rfl, rfl, rfl, by simp, fun k hk hn => heap_setCell_other w5 _ k v' (by show k ≠ gp; omega)⟩ lt, lt⟩
theorem DP.app2 {w w5 : World} {g gp : Nat} {zs : List Int} {at_ : Int} {u0 u1 u2 v' : Value} {p : Prt} {news : List Int} {m : Nat} (h : DP w g gp zs at_ u0 u1 u2 p) (o5 : w5.ownsRow (gp + 1) 2 1 v' (p.N.length + m) (nums .i64 p.N ++ nums .i64 news)) (hm : news.length = m) (g5 : w.grownBy w5 u2.ownBlock) (a5 : v'.ownBlock = u2.ownBlock ∨ v'.ownBlock = some w.heap.size) :
    DP (w5.setCell ⟨gp, 2, none⟩ v') g gp zs at_ u0 u1 v' { p with N := p.N ++ news } := by
  have lt := h.lt
  have own : ∀ b, u2.ownBlock = some b → gp + 1 ≤ b := fun b hb => (h.own.o2.lt b hb).1
  have oN : Own (w5.setCell ⟨gp, 2, none⟩ v') (gp + 1) w5.heap.size 2 .i64 v' (p.N ++ news) := (Own.mk_ (n := p.N.length + m) (zs := p.N ++ news) (by simpa [nums] using o5) (by simp [hm])).set _ _ (.inl (by show gp < gp + 1; omega))
  have h1 : Own (w5.setCell ⟨gp, 2, none⟩ v') (gp + 1) w5.heap.size 2 .i64 u0 _ := ((h.own.o0.grown g5 h.own.d02).more (Nat.le_refl _) g5.size).set _ _ (.inl (by show gp < gp + 1; omega))
  have h2 : Own (w5.setCell ⟨gp, 2, none⟩ v') (gp + 1) w5.heap.size 2 .i64 u1 _ := ((h.own.o1.grown g5 h.own.d12).more (Nat.le_refl _) g5.size).set _ _ (.inl (by show gp < gp + 1; omega))
  have n01 := apart_new (w5 := w5) a5 h.own.o0 h.own.d20
  have n02 := apart_new (w5 := w5) a5 h.own.o1 h.own.d21
  have bl : Blk w5 gp 26 _ := (g5.block gp h.blk.lt (by intro e; have := own gp e.symm; omega)).trans h.blk
  have sz : (w5.setCell ⟨gp, 2, none⟩ v').heap.size = w5.heap.size := by simp
  exact ⟨bl.set 2 v', by rw [sz]; exact ⟨h1, h2, oN, h.own.d01, own_ne_symm n01, h.own.d10, own_ne_symm n02, n01, n02⟩, by
    have s5 : Src w5 g zs at_ := h.src.out (Out.of_grown (lo := gp + 1) (hi := w.heap.size) g5 fun b hb => h.own.o2.lt b hb) (by omega)
    exact s5.out (lo := gp) (hi := gp + 1) ⟨rfl, rfl, rfl, by simp, fun k hk hn => heap_setCell_other w5 _ k v' (by show k ≠ gp; omega)⟩ lt, lt⟩
theorem DP.set2 {w : World} {g gp : Nat} {zs : List Int} {at_ : Int} {u0 u1 u2 v : Value} {p : Prt} {N : List Int} {lo : Nat} (h : DP w g gp zs at_ u0 u1 u2 p) (hv : Own w lo w.heap.size 2 .i64 v N) (hlo : gp + 1 ≤ lo) (n0 : u0.ownBlock = none ∨ u0.ownBlock ≠ v.ownBlock) (n1 : u1.ownBlock = none ∨ u1.ownBlock ≠ v.ownBlock) :
    DP (w.setCell ⟨gp, 2, none⟩ v) g gp zs at_ u0 u1 v { p with N := N } := by
  have lt := h.lt
  have sz : (w.setCell ⟨gp, 2, none⟩ v).heap.size = w.heap.size := by simp
  have a : gp < gp + 1 := by omega
  exact ⟨h.blk.set 2 v, by rw [sz]; exact ⟨h.own.o0.set _ _ (.inl a), h.own.o1.set _ _ (.inl a), (hv.set _ _ (.inl (by show gp < lo; omega))).more hlo (Nat.le_refl _), h.own.d01, n0, h.own.d10, n1, own_ne_symm n0, own_ne_symm n1⟩,
    h.src.out (lo := gp) (hi := gp + 1) ⟨rfl, rfl, rfl, by simp, fun k hk hn => heap_setCell_other w _ k v (by show k ≠ gp; omega)⟩ lt, lt⟩
theorem out_set (w : World) (r i : Nat) (v : Value) : Out r (r + 1) w (w.setCell ⟨r, i, none⟩ v) := ⟨rfl, rfl, rfl, by simp, fun k hk hn => heap_setCell_other w _ k v (by show k ≠ r; omega)⟩
theorem out_set6 (w : World) (r : Nat) (a b c d e f : Value) : Out r (r + 1) w ((((((w.setCell ⟨r, 0, none⟩ a).setCell ⟨r, 1, none⟩ b).setCell ⟨r, 2, none⟩ c).setCell ⟨r, 3, none⟩ d).setCell ⟨r, 4, none⟩ e).setCell ⟨r, 5, none⟩ f) :=
  (((((out_set w r 0 a).trans (out_set _ r 1 b)).trans (out_set _ r 2 c)).trans (out_set _ r 3 d)).trans (out_set _ r 4 e)).trans (out_set _ r 5 f)
end Go.Proofs.YtkkojemnbcddfaaDoor

namespace Go.Proofs.YtkkojemnbcddfaaDoor
open Go.RowKit

set_option maxRecDepth 100000 in
set_option maxHeartbeats 8000000 in
theorem l7Draw_any (g : Nat) (zs : List Int) (w : World) (hs : Src w g zs 0) (hb : ∀ b ∈ zs, isByte b) (hl : zs.length < 2000000) :
    Calls Tryd.prog 59 #[.pointer (some ⟨g, 0, none⟩)] w fun e w' => (∃ v0 v1 v2 p at', e = .returned (.agg #[v0, v1, v2, .int .i64 p.L, .int .i64 p.S, .int .i64 p.E]) ∧ OwnPart w' w.heap.size w'.heap.size 2 v0 v1 v2 p ∧ Few p 40 ∧ Src w' g zs at' ∧ 0 ≤ at' ∧ at' ≤ 100) ∧ Out g (g + 1) w w' := by
  obtain ⟨i0, hi, hz0, hz1, hz2⟩ := info_parts info_int64
  have HB := Lib.hid hb
  have gl := hs.lt
  have K0 := Blk.new w 26 #[.slice none 0 0, .slice none 0 0, .slice none 0 0, .int .i64 0, .int .i64 0, .int .i64 0]
  have o0 := (Out.refl g (g + 1) w).alloc (.cells #[.slice none 0 0, .slice none 0 0, .slice none 0 0, .int .i64 0, .int .i64 0, .int .i64 0] 26)
  have S0 := hs.alloc (.cells #[.slice none 0 0, .slice none 0 0, .slice none 0 0, .int .i64 0, .int .i64 0, .int .i64 0] 26)
  have z0 : (w.alloc (.cells #[.slice none 0 0, .slice none 0 0, .slice none 0 0, .int .i64 0, .int .i64 0, .int .i64 0] 26)).heap.size = w.heap.size + 1 := by simp
  have KL := Blk.new (w.alloc (.cells #[.slice none 0 0, .slice none 0 0, .slice none 0 0, .int .i64 0, .int .i64 0, .int .i64 0] 26)) 2 #[.int .i64 0, .int .i64 1, .int .i64 2, .int .i64 3]
  rw [z0] at KL
  have K1 := Lib.hid (K0.alloc (.cells #[.int .i64 0, .int .i64 1, .int .i64 2, .int .i64 3] 2))
  have A1 := Lib.hid (o0.alloc (.cells #[.int .i64 0, .int .i64 1, .int .i64 2, .int .i64 3] 2))
  have S1 := Lib.hid (S0.alloc (.cells #[.int .i64 0, .int .i64 1, .int .i64 2, .int .i64 3] 2))
  have KLh := Lib.hid KL
  have z1 := Lib.hid (show ((w.alloc (.cells #[.slice none 0 0, .slice none 0 0, .slice none 0 0, .int .i64 0, .int .i64 0, .int .i64 0] 26)).alloc (.cells #[.int .i64 0, .int .i64 1, .int .i64 2, .int .i64 3] 2)).heap.size = w.heap.size + 2 from by simp)
  clear K0 o0 S0 z0 KL hs hb
  go_enter Tryd.func59, Tryd.ntmps59
  go_wp2_with fail
  generalize (w.alloc (.cells #[.slice none 0 0, .slice none 0 0, .slice none 0 0, .int .i64 0, .int .i64 0, .int .i64 0] 26)).alloc (.cells #[.int .i64 0, .int .i64 1, .int .i64 2, .int .i64 3] 2) = wb at *
  have pl := (by decide : ∀ y ∈ ([0, 1, 2, 3] : List Int), 0 ≤ y ∧ y ≤ 3) _ (pick_in [0, 1, 2, 3] zs 0 4 rfl (by omega))
  refine (l1Pick_any g (w.heap.size + 1) 4 2 [0, 1, 2, 3] zs 0 wb KLh.out (by omega) rfl (by omega) (by omega) S1.out HB.out hl (by omega)).mono ?_
  rintro e w1 ⟨rfl, hs1, o1⟩
  obtain ⟨L, hL⟩ : ∃ L : Int, Hid (nth [0, 1, 2, 3] (nxt zs 0 ((4 : Nat) : Int)).toNat = L) := ⟨_, Lib.hid rfl⟩
  rw [hL.out] at pl ⊢
  have S2 := Lib.hid hs1
  have K2 := Lib.hid (K1.out.out o1 (.inr (by omega)))
  have A2 := Lib.hid (A1.out.trans o1)
  have zz1 := Lib.hid o1.size
  clear hs1 o1 K1 A1 S1 KLh
  go_wp2_with fail
  refine (next_src g zs (0 + 1) 2 w1 S2.out HB.out hl (by omega) (by omega)).mono ?_
  rintro e w2 ⟨rfl, hs2, o2⟩
  have ps := nxt_range zs (0 + 1) 2 (by omega)
  obtain ⟨s, hs'⟩ : ∃ s : Int, Hid (nxt zs (0 + 1) 2 = s) := ⟨_, Lib.hid rfl⟩
  rw [hs'.out] at ps ⊢
  have S3 := Lib.hid hs2
  have K3 := Lib.hid (K2.out.out o2 (.inr (by omega)))
  have A3 := Lib.hid (A2.out.trans o2)
  have zz2 := Lib.hid o2.size
  clear hs2 o2 K2 A2 S2
  go_wp2_with fail
  refine (next_src g zs (0 + 1 + 1) 2 w2 S3.out HB.out hl (by omega) (by omega)).mono ?_
  rintro e w3 ⟨rfl, hs3, o3⟩
  have pe := nxt_range zs (0 + 1 + 1) 2 (by omega)
  obtain ⟨r, hr'⟩ : ∃ r : Int, Hid (nxt zs (0 + 1 + 1) 2 = r) := ⟨_, Lib.hid rfl⟩
  rw [hr'.out] at pe ⊢
  have D4 : DP (w3.alloc (.cells #[.slice none 0 0, .slice none 0 0, .slice none 0 0, .int .i64 L, .int .i64 s, .int .i64 r] 26)) g w3.heap.size zs (0 + 1 + 1 + 1) (.slice none 0 0) (.slice none 0 0) (.slice none 0 0) ⟨[], [], [], L, s, r⟩ :=
    ⟨Blk.new w3 _ _, ⟨Own.nil _ _ _ _ _, Own.nil _ _ _ _ _, Own.nil _ _ _ _ _, .inl rfl, .inl rfl, .inl rfl, .inl rfl, .inl rfl, .inl rfl⟩, hs3.alloc _, hs3.lt⟩
  have D4h := Lib.hid D4
  have K4 := Lib.hid ((K3.out.out o3 (.inr (by omega))).alloc (.cells #[.slice none 0 0, .slice none 0 0, .slice none 0 0, .int .i64 L, .int .i64 s, .int .i64 r] 26))
  have A4 := Lib.hid ((A3.out.trans o3).alloc (.cells #[.slice none 0 0, .slice none 0 0, .slice none 0 0, .int .i64 L, .int .i64 s, .int .i64 r] 26))
  have zz3 := Lib.hid (show w.heap.size + 2 ≤ w3.heap.size from by have := o3.size; have := zz1.out; have := zz2.out; have := z1.out; omega)
  clear hs3 o3 K3 A3 S3 D4
  go_wp2_with fail
  generalize w3.alloc (.cells #[.slice none 0 0, .slice none 0 0, .slice none 0 0, .int .i64 L, .int .i64 s, .int .i64 r] 26) = w4 at *
  generalize w3.heap.size = gp at *
  refine (next_src g zs (0 + 1 + 1 + 1) 16 w4 D4h.out.src HB.out hl (by omega) (by omega)).mono ?_
  rintro e w5 ⟨rfl, hs5, o5⟩
  have pn := nxt_range zs (0 + 1 + 1 + 1) 16 (by omega)
  obtain ⟨N, hN⟩ : ∃ N : Nat, Hid (nxt zs (0 + 1 + 1 + 1) 16 = (N : Int)) := ⟨(nxt zs (0 + 1 + 1 + 1) 16).toNat, Lib.hid (by show _ = _; omega)⟩
  rw [hN.out] at pn ⊢
  have D5 := Lib.hid (D4h.out.call o5 hs5)
  have K5 := Lib.hid (K4.out.out o5 (.inr (by omega)))
  have A5 := Lib.hid (A4.out.trans o5)
  have n15 : N ≤ 15 := by omega
  clear hs5 o5 K4 A4 D4h pn
  go_wp2_with fail
  go_loopw [4] (fun nv wr => ∃ (k : Nat) (ts : List Int) (u0 : Value), k ≤ N ∧ nv = .int .i64 ((N : Int) - k) ∧ Hid (ts.length = k) ∧ Hid (∀ t ∈ ts, 0 ≤ t ∧ t ≤ 1114111) ∧ Hid (DP wr g gp zs (4 + (k : Int)) u0 (.slice none 0 0) (.slice none 0 0) ⟨ts, [], [], L, s, r⟩) ∧ Hid (Blk wr w.heap.size 26 #[.slice none 0 0, .slice none 0 0, .slice none 0 0, .int .i64 0, .int .i64 0, .int .i64 0]) ∧ Hid (Out g (g + 1) w wr)) (fun nv _ => (intOf nv).toNat)
  case atStart => exact ⟨0, [], .slice none 0 0, by omega, by simp, Lib.hid rfl, Lib.hid (fun _ h => by cases h), Lib.hid (by simpa using D5.out), K5, A5⟩
  case round =>
    clear K5 A5 D5
    obtain ⟨k, ts, u0, hk, rfl, htl, htr, hd, hkk, hou⟩ := hrel
    by_cases hlt : k < N
    · have c0 : (0 : Int) < (N : Int) - k := by omega
      obtain ⟨Au, cu, rfl⟩ := hd.out.own.o0.form
      have f0 := hd.out.blk.cell 0 (u := .slice Au ts.length cu) rfl
      have LIT := Lib.hid (show Blk (wr.alloc (.cells (nums .i64 [40, 41, 91, 93, 40, 41, 9001, 12297, 97, 1488, 49, 32, 33, 769, 1632, 8295, 8297]).toArray 2)).drew wr.heap.size 2 (nums .i64 [40, 41, 91, 93, 40, 41, 9001, 12297, 97, 1488, 49, 32, 33, 769, 1632, 8295, 8297]).toArray from Blk.new wr 2 (nums .i64 [40, 41, 91, 93, 40, 41, 9001, 12297, 97, 1488, 49, 32, 33, 769, 1632, 8295, 8297]).toArray)
      have D6 := Lib.hid ((hd.out.alloc (.cells (nums .i64 [40, 41, 91, 93, 40, 41, 9001, 12297, 97, 1488, 49, 32, 33, 769, 1632, 8295, 8297]).toArray 2)).drew 1)
      have K6 := Lib.hid (show Blk (wr.alloc (.cells (nums .i64 [40, 41, 91, 93, 40, 41, 9001, 12297, 97, 1488, 49, 32, 33, 769, 1632, 8295, 8297]).toArray 2)).drew w.heap.size 26 _ from hkk.out.alloc (.cells (nums .i64 [40, 41, 91, 93, 40, 41, 9001, 12297, 97, 1488, 49, 32, 33, 769, 1632, 8295, 8297]).toArray 2))
      have A6 := Lib.hid ((hou.out.alloc (.cells (nums .i64 [40, 41, 91, 93, 40, 41, 9001, 12297, 97, 1488, 49, 32, 33, 769, 1632, 8295, 8297]).toArray 2)).drew 1)
      have pr := Lib.hid ((by decide : ∀ y ∈ ([40, 41, 91, 93, 40, 41, 9001, 12297, 97, 1488, 49, 32, 33, 769, 1632, 8295, 8297] : List Int), 0 ≤ y ∧ y ≤ 1114111) _ (pick_in [40, 41, 91, 93, 40, 41, 9001, 12297, 97, 1488, 49, 32, 33, 769, 1632, 8295, 8297] zs (4 + (k : Int)) 17 rfl (by omega)))
      have gne : wr.heap.size ≠ g := by have := hd.out.src.lt; omega
      have CP := Lib.hid (l1Pick_any g wr.heap.size 17 2 [40, 41, 91, 93, 40, 41, 9001, 12297, 97, 1488, 49, 32, 33, 769, 1632, 8295, 8297] zs (4 + (k : Int)) (wr.alloc (.cells (nums .i64 [40, 41, 91, 93, 40, 41, 9001, 12297, 97, 1488, 49, 32, 33, 769, 1632, 8295, 8297]).toArray 2)).drew LIT.out gne rfl (by omega) (by omega) D6.out.src HB.out hl (by omega))
      obtain ⟨x, hx⟩ : ∃ x : Int, Hid (nth [40, 41, 91, 93, 40, 41, 9001, 12297, 97, 1488, 49, 32, 33, 769, 1632, 8295, 8297] (nxt zs (4 + (k : Int)) ((17 : Nat) : Int)).toNat = x) := ⟨_, Lib.hid rfl⟩
      rw [hx.out] at pr CP
      have f60 : (wr.alloc (.cells #[.int .i64 40, .int .i64 41, .int .i64 91, .int .i64 93, .int .i64 40, .int .i64 41, .int .i64 9001, .int .i64 12297, .int .i64 97, .int .i64 1488, .int .i64 49, .int .i64 32, .int .i64 33, .int .i64 769, .int .i64 1632, .int .i64 8295, .int .i64 8297] 2)).drew.cell? ⟨gp, 0, none⟩ = some (.slice Au ts.length cu) := D6.out.blk.cell 0 rfl
      have tl := htl.out
      have tb : (ts.length + 1) * 8 ≤ 140737488355328 := by omega
      have tm : ts.length + 1 ≤ 140737488355328 := by omega
      clear gne tl
      have EA : Hid ( (4 : Int) + (k : Int) + 1 = 4 + ((k + 1 : Nat) : Int)) := Lib.hid (by show (4 : Int) + (k : Int) + 1 = 4 + ((k + 1 : Nat) : Int); omega)
      have TL := Lib.hid (show (ts ++ [x]).length = k + 1 by have := htl.out; simp; omega)
      have TR := Lib.hid (show ∀ t ∈ ts ++ [x], 0 ≤ t ∧ t ≤ 1114111 from fun t ht => (List.mem_append.1 ht).elim (htr.out t) (fun e => by rw [List.mem_singleton.1 e]; exact pr.out))
      go_wp2
      go_region_law (first
        | (refine step_call (by rfl) ?_; go_simp; go_at_call 61; refine CP.out.mono ?_; rintro e w7 ⟨rfl, hs7, o7⟩
           have D7 := Lib.hid (D6.out.call o7 hs7)
           have K7 := Lib.hid (K6.out.out o7 (.inr (by have := zz3.out; omega)))
           have A7 := Lib.hid (A6.out.trans o7)
           have D8 := Lib.hid (D7.out.alloc (.cells #[.int .i64 x] 2))
           have R8 := Lib.hid (Rd.lit w7 #[.int .i64 x] 2)
           have g8 : gp + 1 ≤ (w7.alloc (.cells #[.int .i64 x] 2)).heap.size := D8.out.blk.lt
           have f70 := D7.out.blk.cell 0 (u := .slice Au ts.length cu) rfl
           have f80 := D8.out.blk.cell 0 (u := .slice Au ts.length cu) rfl
           clear hs7 o7)
        | (refine step_apps (by rfl) _ _ _ (by rfl) (gp + 1) Tryd.underlying24 hi hz0 hz1 hz2 rfl (by omega) (by rfl) D8.out.own.o0.1 (by rfl) (m := 1) R8.out rfl (nums_one .i64 [x]) tb tm g8 ?_; intro v' w9 o9 g9 a9
           obtain ⟨A9, c9, rfl⟩ := own_form o9
           have D9 := Lib.hid (DP.app0 (news := [x]) (m := 1) D8.out o9 rfl g9 a9)
           have b9 : Blk w9 gp 26 _ := (g9.block gp D8.out.blk.lt (by intro e; have := (D8.out.own.o0.lt gp e.symm).1; omega)).trans D8.out.blk
           have f90 := b9.cell 0 (u := .slice Au ts.length cu) rfl
           have ff90 := b9.frozen 0
           have K9 := Lib.hid (show Blk (w9.setCell ⟨gp, 0, none⟩ (.slice A9 (ts.length + 1) c9)) w.heap.size 26 _ from (heap_setCell_other w9 _ _ _ (by have := zz3.out; show w.heap.size ≠ gp; omega)).trans ((g9.block w.heap.size (K7.out.alloc _).lt (by intro e; have := (D8.out.own.o0.lt _ e.symm).1; have := zz3.out; omega)).trans (K7.out.alloc (.cells #[.int .i64 x] 2))))
           have A9' := Lib.hid (((A7.out.alloc (.cells #[.int .i64 x] 2)).later (Out.of_grown (lo := gp + 1) (hi := (w7.alloc (.cells #[.int .i64 x] 2)).heap.size) g9 (fun b hb => D8.out.own.o0.lt b hb)) (by have := zz3.out; omega)).set ⟨gp, 0, none⟩ (.slice A9 (ts.length + 1) c9) (by show w.heap.size ≤ gp; have := zz3.out; omega))
           clear o9 g9 a9 b9))
      all_goals
        rw [EA.out] at D9
        go_wp2
        go_roundw
        case rel => exact ⟨k + 1, ts ++ [x], _, by omega, by go_num, TL, TR, D9, K9, A9'⟩
        case measure => first | omega | (simp [intOf]; omega)
    · obtain rfl : k = N := by omega
      have c0 : ¬ (0 : Int) < (k : Int) - k := by omega
      obtain ⟨Au, cu, rfl⟩ := hd.out.own.o0.form
      have f0 := hd.out.blk.cell 0 (u := .slice Au ts.length cu) rfl
      have tl : ts.length ≤ 15 := by have := htl.out; omega
      have D1 : Hid (DP wr g gp zs (4 + (k : Int)) (.slice Au ts.length cu) (.slice none 0 0) (.slice none 0 0) ⟨ts, [], [], L, s, r⟩) := hd
      clear hd htl hlt
      go_wp2
      clear f0
      generalize wr = wo at *
      clear wr
      go_loopw [31] (fun nv wr => ∃ (j : Nat) (fs : List Int) (u1 : Value), j ≤ ts.length ∧ nv = .int .i64 j ∧ Hid (fs.length = j) ∧ Hid (∀ t ∈ fs, In t) ∧ Hid (DP wr g gp zs (4 + (k : Int)) (.slice Au ts.length cu) u1 (.slice none 0 0) ⟨ts, fs, [], L, s, r⟩) ∧ Hid (Blk wr w.heap.size 26 #[.slice none 0 0, .slice none 0 0, .slice none 0 0, .int .i64 0, .int .i64 0, .int .i64 0]) ∧ Hid (Out g (g + 1) w wr)) (fun nv _ => ts.length - (intOf nv).toNat)
      case atStart => exact ⟨0, [], .slice none 0 0, by omega, rfl, Lib.hid rfl, Lib.hid (fun _ h => by cases h), D1, hkk, hou⟩
      case round =>
        clear D1 hkk hou
        obtain ⟨j, fs, u1, hj, rfl, hfl, hfr, hd, hkk, hou⟩ := hrel
        by_cases hjl : j < ts.length
        · obtain ⟨A1, c1, rfl⟩ := hd.out.own.o1.form
          obtain ⟨A', c', e', rd'⟩ := hd.out.own.o0.sees
          obtain ⟨b', off', eb, _, hc'⟩ := rd'.int (by show 0 < ts.length; omega)
          have e1 : Au = A' := by injection e'
          subst e1
          subst eb
          have hx0 : wr.cell? ⟨b', off' + j, none⟩ = some (.int .i64 (nth ts j)) := hc' j hjl
          have tge := (htr.out (nth ts j) (by unfold nth; rw [List.getElem?_eq_getElem hjl]; exact List.getElem_mem _)).1
          obtain ⟨t, ht⟩ : ∃ t, Hid (nth ts j = t) := ⟨_, Lib.hid rfl⟩
          rw [ht.out] at hx0 tge
          have CI := Lib.hid (classN_in tge)
          have CL := Lib.hid (l2Class_any t wr.drew tge)
          obtain ⟨x, hx⟩ : ∃ x : Int, Hid (classN t = x) := ⟨_, Lib.hid rfl⟩
          rw [hx.out] at CI CL
          have f0 := hd.out.blk.cell 0 (u := .slice (some ⟨b', off', none⟩) ts.length cu) rfl
          have f1 := hd.out.blk.cell 1 (u := .slice A1 fs.length c1) rfl
          have D8 := Lib.hid (show DP (wr.alloc (.cells #[.int .i64 x] 2)).drew g gp zs (4 + (k : Int)) _ _ _ _ from (hd.out.alloc (.cells #[.int .i64 x] 2)).drew 1)
          have K8 := Lib.hid (show Blk (wr.alloc (.cells #[.int .i64 x] 2)).drew w.heap.size 26 _ from hkk.out.alloc (.cells #[.int .i64 x] 2))
          have A8 := Lib.hid (show Out g (g + 1) w (wr.alloc (.cells #[.int .i64 x] 2)).drew from (hou.out.alloc (.cells #[.int .i64 x] 2)).drew 1)
          have R8 := Lib.hid (show Rd (wr.alloc (.cells #[.int .i64 x] 2)).drew (wr.heap.size + 1) (some ⟨wr.heap.size, 0, none⟩) _ from Rd.lit wr #[.int .i64 x] 2)
          have g8 : gp + 1 ≤ (wr.alloc (.cells #[.int .i64 x] 2)).drew.heap.size := D8.out.blk.lt
          have f81 : (wr.alloc (.cells #[.int .i64 x] 2)).drew.cell? ⟨gp, 1, none⟩ = some (.slice A1 fs.length c1) := D8.out.blk.cell 1 rfl
          have tb : (fs.length + 1) * 8 ≤ 140737488355328 := by have := hfl.out; omega
          have tm : fs.length + 1 ≤ 140737488355328 := by have := hfl.out; omega
          have jl : (j : Int) < (ts.length : Int) := by omega
          clear e' rd' hc' tge
          have FL := Lib.hid (show (fs ++ [x]).length = j + 1 by have := hfl.out; simp; omega)
          have FR := Lib.hid (show ∀ t ∈ fs ++ [x], In t from fun t ht => (List.mem_append.1 ht).elim (hfr.out t) (fun e => by rw [List.mem_singleton.1 e]; exact CI.out))
          go_wp2
          go_region_law (first
            | (refine step_call (by rfl) ?_; go_simp; go_at_call 83; refine CL.out.mono ?_; rintro e w7 ⟨rfl, rfl⟩)
            | (refine step_apps (by rfl) _ _ _ (by rfl) (gp + 1) Tryd.underlying24 hi hz0 hz1 hz2 rfl (by omega) (by rfl) D8.out.own.o1.1 (by rfl) (m := 1) R8.out rfl (nums_one .i64 [x]) tb tm g8 ?_; intro v' w9 o9 g9 a9
               obtain ⟨A9, c9, rfl⟩ := own_form o9
               have D9 := Lib.hid (DP.app1 (news := [x]) (m := 1) D8.out o9 rfl g9 a9)
               have b9 : Blk w9 gp 26 _ := (g9.block gp D8.out.blk.lt (by intro e; have := (D8.out.own.o1.lt gp e.symm).1; omega)).trans D8.out.blk
               have f91 := b9.cell 1 (u := .slice A1 fs.length c1) rfl
               have ff91 := b9.frozen 1
               have K9 := Lib.hid (show Blk (w9.setCell ⟨gp, 1, none⟩ (.slice A9 (fs.length + 1) c9)) w.heap.size 26 _ from (heap_setCell_other w9 _ _ _ (by have := zz3.out; show w.heap.size ≠ gp; omega)).trans ((g9.block w.heap.size K8.out.lt (by intro e; have := (D8.out.own.o1.lt _ e.symm).1; have := zz3.out; omega)).trans K8.out))
               have A9' := Lib.hid ((A8.out.later (Out.of_grown (lo := gp + 1) (hi := (wr.alloc (.cells #[.int .i64 x] 2)).drew.heap.size) g9 (fun b hb => D8.out.own.o1.lt b hb)) (by have := zz3.out; omega)).set ⟨gp, 1, none⟩ (.slice A9 (fs.length + 1) c9) (by show w.heap.size ≤ gp; have := zz3.out; omega))
               clear o9 g9 a9 b9))
          all_goals
            go_wp2
            go_roundw
            case rel => exact ⟨j + 1, fs ++ [x], _, by omega, by go_num, FL, FR, D9, K9, A9'⟩
            case measure => first | omega | (simp [intOf]; omega)
        · have hjt : j = ts.length := by omega
          obtain ⟨A1, c1, rfl⟩ := hd.out.own.o1.form
          have fl := hfl.out
          have fl6 : fs.length ≤ 15 := by omega
          have f1 := hd.out.blk.cell 1 (u := .slice A1 fs.length c1) rfl
          have f4 := hd.out.blk.cell 4 (u := .int .i64 s) rfl
          have HJ := Lib.hid hjt
          have SE := Lib.hid hd.out.own.o1.sees
          have jn : decide ((j : Int) < (ts.length : Int)) = false := decide_eq_false (by omega)
          have jn2 : decide (j < ts.length) = false := decide_eq_false hjl
          clear hjt fl hjl
          go_wp2_with fail
          refine (l6Weak_any _ fs s wr wr.heap.size SE.out (Nat.le_refl _) (by omega)).mono ?_
          rintro e w7 ⟨⟨u, rfl, o7⟩, b7⟩
          obtain ⟨A7, c7, rfl⟩ := o7.form
          have D7 := Lib.hid (hd.out.call (Out.of_below b7) (hd.out.src.below b7))
          have K7 := Lib.hid (hkk.out.below b7 hkk.out.lt)
          have A7' := Lib.hid (hou.out.trans (Out.of_below (lo := g) (hi := g + 1) b7))
          have gps := hd.out.blk.lt
          have WL := Lib.hid (show (weakW fs s).length = fs.length from weakW_len fs s)
          have WI := Lib.hid (weak_in hfr.out (s := s) (by omega))
          obtain ⟨ws, hws⟩ : ∃ ws, Hid (ws = weakW fs s) := ⟨_, Lib.hid rfl⟩
          rw [← hws.out] at o7 WL WI ⊢
          have D8 := Lib.hid (D7.out.set2 o7 (by omega) (own_far hd.out.own.o0 o7 (Nat.le_refl _)) (own_far hd.out.own.o1 o7 (Nat.le_refl _)))
          have K8 := Lib.hid (show Blk (w7.setCell ⟨gp, 2, none⟩ (.slice A7 ws.length c7)) w.heap.size 26 _ from (heap_setCell_other w7 _ _ _ (by have := zz3.out; show w.heap.size ≠ gp; omega)).trans K7.out)
          have A8' := Lib.hid (A7'.out.set ⟨gp, 2, none⟩ (.slice A7 ws.length c7) (by show w.heap.size ≤ gp; have := zz3.out; omega))
          have f2 := D7.out.blk.cell 2 (u := .slice none 0 0) rfl
          have ff2 := D7.out.blk.frozen 2
          clear o7 b7 hd hkk hou f1 f4 SE gps
          have g0 := D8.out.blk.cell 0 (u := .slice Au ts.length cu) rfl
          have g1 := D8.out.blk.cell 1 (u := .slice A1 fs.length c1) rfl
          have g2 := D8.out.blk.cell 2 (u := .slice A7 ws.length c7) rfl
          have g3 := D8.out.blk.cell 3 (u := .int .i64 L) rfl
          have g4 := D8.out.blk.cell 4 (u := .int .i64 s) rfl
          have g5 := D8.out.blk.cell 5 (u := .int .i64 r) rfl
          have hd0 := K8.out.cell 0 (u := .slice none 0 0) rfl
          have hd1 := K8.out.cell 1 (u := .slice none 0 0) rfl
          have hd2 := K8.out.cell 2 (u := .slice none 0 0) rfl
          have hd3 := K8.out.cell 3 (u := .int .i64 0) rfl
          have hd4 := K8.out.cell 4 (u := .int .i64 0) rfl
          have hd5 := K8.out.cell 5 (u := .int .i64 0) rfl
          have hf0 := K8.out.frozen 0
          have hf1 := K8.out.frozen 1
          have hf2 := K8.out.frozen 2
          have hf3 := K8.out.frozen 3
          have hf4 := K8.out.frozen 4
          have hf5 := K8.out.frozen 5
          go_wp2
          refine bodyPost_ret (v := .agg #[.slice Au ts.length cu, .slice A1 fs.length c1, .slice A7 ws.length c7, .int .i64 L, .int .i64 s, .int .i64 r]) (by simp [results, Tryd.results59, go_sem, hd0, hd1, hd2, hd3, hd4, hd5]) rfl ?_
          have rg : w.heap.size + 1 ≤ gp + 1 := by have := zz3.out; omega
          refine ⟨⟨_, _, _, ⟨ts, fs, ws, L, s, r⟩, 4 + (k : Int), rfl, ?_, ⟨fun t ht => by have := htr.out t ht; omega, fun t ht => by have := hfr.out t ht; unfold In at this; omega, fun t ht => by have := WI.out t ht; unfold In at this; omega, by show ts.length ≤ 40; omega, by show fs.length ≤ 40; omega, by show ws.length ≤ 40; have := WL.out; omega, by show -1 ≤ L ∧ L ≤ 127; omega, by show -1 ≤ s ∧ s ≤ 127; omega, by show -1 ≤ r ∧ r ≤ 127; omega⟩, ?_, by omega, by omega⟩, ?_⟩
          · exact ((D8.out.own.outP (out_set6 _ _ _ _ _ _ _ _) (.inr rg)).moreP (by simp)).wide (by omega)
          · exact D8.out.src.out (out_set6 _ _ _ _ _ _ _ _) gl
          · exact A8'.out.later (out_set6 _ _ _ _ _ _ _ _) (Nat.le_refl _)
end Go.Proofs.YtkkojemnbcddfaaDoor

namespace Go.Proofs.YtkkojemnbcddfaaDoor
open Go.RowKit

theorem own_setne {w : World} {lo hi : Nat} {t : TypeId} {kd : IntKind} {v : Value} {zs : List Int} (h : Own w lo hi t kd v zs) (p : Addr) (x : Value) (ha : v.ownBlock ≠ some p.block) : Own (w.setCell p x) lo hi t kd v zs := ⟨ownsRow_setCell_other h.1 ha x, h.2⟩
theorem src_set {w : World} {g gp i : Nat} {zs : List Int} {at_ : Int} {v : Value} (h : Src w g zs at_) (hg : g ≠ gp) (hp : g < gp := by omega) : Src (w.setCell ⟨gp, i, none⟩ v) g zs at_ :=
  h.out (lo := gp) (hi := gp + 1) ⟨rfl, rfl, rfl, by simp, fun k hk hn => heap_setCell_other w _ k v (by show k ≠ gp; omega)⟩ hp
/-- a part that is bent, behind a pointer, and the source -/
structure DQ (w : World) (g gp lo : Nat) (zs : List Int) (at_ : Int) (u0 u1 u2 : Value) (p : Prt) : Prop where
  blk : Blk w gp 26 #[u0, u1, u2, .int .i64 p.L, .int .i64 p.S, .int .i64 p.E]
  own : OwnPart w lo w.heap.size 2 u0 u1 u2 p
  src : Src w g zs at_
  lt : g < lo
  ne : g < gp
  b0 : u0.ownBlock ≠ some gp
  b1 : u1.ownBlock ≠ some gp
  b2 : u2.ownBlock ≠ some gp
section
variable {w w' w5 : World} {g gp lo : Nat} {zs news : List Int} {at_ at2 : Int} {u0 u1 u2 v' : Value} {p : Prt} {m : Nat}
theorem DQ.call (h : DQ w g gp lo zs at_ u0 u1 u2 p) (ho : Out g (g + 1) w w') (hs : Src w' g zs at2) : DQ w' g gp lo zs at2 u0 u1 u2 p :=
  ⟨h.blk.out ho (by have := h.ne; omega), (h.own.outP ho (.inr (by have := h.lt; omega))).moreP ho.size, hs, h.lt, h.ne, h.b0, h.b1, h.b2⟩
theorem DQ.alloc (h : DQ w g gp lo zs at_ u0 u1 u2 p) (o : Obj) : DQ (w.alloc o) g gp lo zs at_ u0 u1 u2 p := h.call ((Out.refl g (g + 1) w).alloc o) (h.src.alloc o)
theorem DQ.drew (h : DQ w g gp lo zs at_ u0 u1 u2 p) (n : Nat) : DQ (w.drewN n) g gp lo zs at_ u0 u1 u2 p := ⟨h.blk, ⟨h.own.o0, h.own.o1, h.own.o2, h.own.d01, h.own.d02, h.own.d10, h.own.d12, h.own.d20, h.own.d21⟩, h.src, h.lt, h.ne, h.b0, h.b1, h.b2⟩
theorem new_ne (hb : gp < w.heap.size) {v : Value} (a5 : v'.ownBlock = v.ownBlock ∨ v'.ownBlock = some w.heap.size) (hv : v.ownBlock ≠ some gp) : v'.ownBlock ≠ some gp := by
  rcases a5 with e | e
  · rw [e]; exact hv
  · rw [e]; intro h; injection h with h; omega
theorem DQ.app0 (h : DQ w g gp lo zs at_ u0 u1 u2 p) (o5 : w5.ownsRow lo 2 1 v' (p.T.length + m) (nums .i64 p.T ++ nums .i64 news)) (hm : news.length = m) (g5 : w.grownBy w5 u0.ownBlock) (a5 : v'.ownBlock = u0.ownBlock ∨ v'.ownBlock = some w.heap.size) :
    DQ (w5.setCell ⟨gp, 0, none⟩ v') g gp lo zs at_ v' u1 u2 { p with T := p.T ++ news } := by
  have lt := h.lt
  have nb := new_ne (v' := v') h.blk.lt a5 h.b0
  have oN : Own (w5.setCell ⟨gp, 0, none⟩ v') lo w5.heap.size 2 .i64 v' (p.T ++ news) := own_setne (Own.mk_ (n := p.T.length + m) (zs := p.T ++ news) (by simpa [nums] using o5) (by simp [hm])) _ _ nb
  have h1 : Own (w5.setCell ⟨gp, 0, none⟩ v') lo w5.heap.size 2 .i64 u1 _ := own_setne ((h.own.o1.grown g5 h.own.d10).more (Nat.le_refl _) g5.size) _ _ h.b1
  have h2 : Own (w5.setCell ⟨gp, 0, none⟩ v') lo w5.heap.size 2 .i64 u2 _ := own_setne ((h.own.o2.grown g5 h.own.d20).more (Nat.le_refl _) g5.size) _ _ h.b2
  have n01 := apart_new (w5 := w5) a5 h.own.o1 h.own.d01
  have n02 := apart_new (w5 := w5) a5 h.own.o2 h.own.d02
  have bl : Blk w5 gp 26 _ := (g5.block gp h.blk.lt (fun e => h.b0 e.symm)).trans h.blk
  have sz : (w5.setCell ⟨gp, 0, none⟩ v').heap.size = w5.heap.size := by simp
  exact ⟨bl.set 0 v', by rw [sz]; exact ⟨oN, h1, h2, n01, n02, own_ne_symm n01, h.own.d12, own_ne_symm n02, h.own.d21⟩, by
    have s5 : Src w5 g zs at_ := h.src.out (Out.of_grown (lo := lo) (hi := w.heap.size) g5 fun b hb => h.own.o0.lt b hb) lt
    exact src_set s5 (by have := h.ne; omega) h.ne, lt, h.ne, nb, h.b1, h.b2⟩
theorem DQ.app1 (h : DQ w g gp lo zs at_ u0 u1 u2 p) (o5 : w5.ownsRow lo 2 1 v' (p.F.length + m) (nums .i64 p.F ++ nums .i64 news)) (hm : news.length = m) (g5 : w.grownBy w5 u1.ownBlock) (a5 : v'.ownBlock = u1.ownBlock ∨ v'.ownBlock = some w.heap.size) :
    DQ (w5.setCell ⟨gp, 1, none⟩ v') g gp lo zs at_ u0 v' u2 { p with F := p.F ++ news } := by
  have lt := h.lt
  have nb := new_ne (v' := v') h.blk.lt a5 h.b1
  have oN : Own (w5.setCell ⟨gp, 1, none⟩ v') lo w5.heap.size 2 .i64 v' (p.F ++ news) := own_setne (Own.mk_ (n := p.F.length + m) (zs := p.F ++ news) (by simpa [nums] using o5) (by simp [hm])) _ _ nb
  have h1 : Own (w5.setCell ⟨gp, 1, none⟩ v') lo w5.heap.size 2 .i64 u0 _ := own_setne ((h.own.o0.grown g5 h.own.d01).more (Nat.le_refl _) g5.size) _ _ h.b0
  have h2 : Own (w5.setCell ⟨gp, 1, none⟩ v') lo w5.heap.size 2 .i64 u2 _ := own_setne ((h.own.o2.grown g5 h.own.d21).more (Nat.le_refl _) g5.size) _ _ h.b2
  have n01 := apart_new (w5 := w5) a5 h.own.o0 h.own.d10
  have n02 := apart_new (w5 := w5) a5 h.own.o2 h.own.d12
  have bl : Blk w5 gp 26 _ := (g5.block gp h.blk.lt (fun e => h.b1 e.symm)).trans h.blk
  have sz : (w5.setCell ⟨gp, 1, none⟩ v').heap.size = w5.heap.size := by simp
  exact ⟨bl.set 1 v', by rw [sz]; exact ⟨h1, oN, h2, own_ne_symm n01, h.own.d02, n01, n02, h.own.d20, own_ne_symm n02⟩, by
    have s5 : Src w5 g zs at_ := h.src.out (Out.of_grown (lo := lo) (hi := w.heap.size) g5 fun b hb => h.own.o1.lt b hb) lt
    exact src_set s5 (by have := h.ne; omega) h.ne, lt, h.ne, h.b0, nb, h.b2⟩
theorem DQ.app2 (h : DQ w g gp lo zs at_ u0 u1 u2 p) (o5 : w5.ownsRow lo 2 1 v' (p.N.length + m) (nums .i64 p.N ++ nums .i64 news)) (hm : news.length = m) (g5 : w.grownBy w5 u2.ownBlock) (a5 : v'.ownBlock = u2.ownBlock ∨ v'.ownBlock = some w.heap.size) :
    DQ (w5.setCell ⟨gp, 2, none⟩ v') g gp lo zs at_ u0 u1 v' { p with N := p.N ++ news } := by
  have lt := h.lt
  have nb := new_ne (v' := v') h.blk.lt a5 h.b2
  have oN : Own (w5.setCell ⟨gp, 2, none⟩ v') lo w5.heap.size 2 .i64 v' (p.N ++ news) := own_setne (Own.mk_ (n := p.N.length + m) (zs := p.N ++ news) (by simpa [nums] using o5) (by simp [hm])) _ _ nb
  have h1 : Own (w5.setCell ⟨gp, 2, none⟩ v') lo w5.heap.size 2 .i64 u0 _ := own_setne ((h.own.o0.grown g5 h.own.d02).more (Nat.le_refl _) g5.size) _ _ h.b0
  have h2 : Own (w5.setCell ⟨gp, 2, none⟩ v') lo w5.heap.size 2 .i64 u1 _ := own_setne ((h.own.o1.grown g5 h.own.d12).more (Nat.le_refl _) g5.size) _ _ h.b1
  have n01 := apart_new (w5 := w5) a5 h.own.o0 h.own.d20
  have n02 := apart_new (w5 := w5) a5 h.own.o1 h.own.d21
  have bl : Blk w5 gp 26 _ := (g5.block gp h.blk.lt (fun e => h.b2 e.symm)).trans h.blk
  have sz : (w5.setCell ⟨gp, 2, none⟩ v').heap.size = w5.heap.size := by simp
  exact ⟨bl.set 2 v', by rw [sz]; exact ⟨h1, h2, oN, h.own.d01, own_ne_symm n01, h.own.d10, own_ne_symm n02, n01, n02⟩, by
    have s5 : Src w5 g zs at_ := h.src.out (Out.of_grown (lo := lo) (hi := w.heap.size) g5 fun b hb => h.own.o2.lt b hb) lt
    exact src_set s5 (by have := h.ne; omega) h.ne, lt, h.ne, h.b0, h.b1, nb⟩
theorem DQ.put3 (h : DQ w g gp lo zs at_ u0 u1 u2 p) (x : Int) : DQ (w.setCell ⟨gp, 3, none⟩ (.int .i64 x)) g gp lo zs at_ u0 u1 u2 { p with L := x } := by
  have sz : (w.setCell ⟨gp, 3, none⟩ (.int .i64 x)).heap.size = w.heap.size := by simp
  exact ⟨h.blk.set 3 (.int .i64 x), by rw [sz]; exact ⟨own_setne h.own.o0 _ _ h.b0, own_setne h.own.o1 _ _ h.b1, own_setne h.own.o2 _ _ h.b2, h.own.d01, h.own.d02, h.own.d10, h.own.d12, h.own.d20, h.own.d21⟩, src_set h.src (by have := h.ne; omega) h.ne, h.lt, h.ne, h.b0, h.b1, h.b2⟩
theorem DQ.put4 (h : DQ w g gp lo zs at_ u0 u1 u2 p) (x : Int) : DQ (w.setCell ⟨gp, 4, none⟩ (.int .i64 x)) g gp lo zs at_ u0 u1 u2 { p with S := x } := by
  have sz : (w.setCell ⟨gp, 4, none⟩ (.int .i64 x)).heap.size = w.heap.size := by simp
  exact ⟨h.blk.set 4 (.int .i64 x), by rw [sz]; exact ⟨own_setne h.own.o0 _ _ h.b0, own_setne h.own.o1 _ _ h.b1, own_setne h.own.o2 _ _ h.b2, h.own.d01, h.own.d02, h.own.d10, h.own.d12, h.own.d20, h.own.d21⟩, src_set h.src (by have := h.ne; omega) h.ne, h.lt, h.ne, h.b0, h.b1, h.b2⟩
theorem DQ.put5 (h : DQ w g gp lo zs at_ u0 u1 u2 p) (x : Int) : DQ (w.setCell ⟨gp, 5, none⟩ (.int .i64 x)) g gp lo zs at_ u0 u1 u2 { p with E := x } := by
  have sz : (w.setCell ⟨gp, 5, none⟩ (.int .i64 x)).heap.size = w.heap.size := by simp
  exact ⟨h.blk.set 5 (.int .i64 x), by rw [sz]; exact ⟨own_setne h.own.o0 _ _ h.b0, own_setne h.own.o1 _ _ h.b1, own_setne h.own.o2 _ _ h.b2, h.own.d01, h.own.d02, h.own.d10, h.own.d12, h.own.d20, h.own.d21⟩, src_set h.src (by have := h.ne; omega) h.ne, h.lt, h.ne, h.b0, h.b1, h.b2⟩
/-- a number of Now, put anew -/
theorem DQ.cell2 {gb n c : Nat} (h : DQ w g gp lo zs at_ u0 u1 (.slice (some ⟨gb, 0, none⟩) n c) p) (hn : n = p.N.length) (j : Nat) (x : Int) : DQ (w.setCell ⟨gb, j, none⟩ (.int .i64 x)) g gp lo zs at_ u0 u1 (.slice (some ⟨gb, 0, none⟩) n c) { p with N := p.N.set j x } := by
  subst hn
  have sz : (w.setCell ⟨gb, j, none⟩ (.int .i64 x)).heap.size = w.heap.size := by simp
  have gl := (h.own.o2.lt gb rfl)
  have lt := h.lt
  have st := h.own.o2.1.stored j (.int .i64 x)
  have o2 : Own (w.setCell ⟨gb, j, none⟩ (.int .i64 x)) lo w.heap.size 2 .i64 (.slice (some ⟨gb, 0, none⟩) p.N.length c) (p.N.set j x) := ⟨by rw [List.length_set]; exact own_set st.1, h.own.o2.2⟩
  have ne0 : u0.ownBlock ≠ some gb := fun e => by rcases h.own.d02 with q | q; rw [q] at e; cases e; exact q e
  have ne1 : u1.ownBlock ≠ some gb := fun e => by rcases h.own.d12 with q | q; rw [q] at e; cases e; exact q e
  have gg : gp ≠ gb := fun e => h.b2 (by rw [e]; rfl)
  exact ⟨(heap_setCell_other w _ _ _ gg).trans h.blk, by rw [sz]; exact ⟨own_setne h.own.o0 _ _ ne0, own_setne h.own.o1 _ _ ne1, o2, h.own.d01, h.own.d02, h.own.d10, h.own.d12, h.own.d20, h.own.d21⟩, src_set h.src (by omega) (by omega), lt, h.ne, h.b0, h.b1, h.b2⟩
end
end Go.Proofs.YtkkojemnbcddfaaDoor

namespace Go.Proofs.YtkkojemnbcddfaaDoor
open Go.RowKit

theorem few_up {p : Prt} {m n : Nat} (h : Few p m) (k : m ≤ n) : Few p n := ⟨h.t, h.f, h.n, by have := h.lt; omega, by have := h.lf; omega, by have := h.ln; omega, h.l, h.s, h.e⟩
theorem few_ap0 {p : Prt} {m : Nat} (h : Few p m) (news : List Int) (k : Drawn news) : Few { p with T := p.T ++ news } (m + news.length) :=
  ⟨(h.t.app k), h.f, h.n, by have := h.lt; simp; try omega, by have := h.lf; simp; try omega, by have := h.ln; simp; try omega, h.l, h.s, h.e⟩
theorem few_app0 {p : Prt} (h : Few p 40) {x : Int} (hx : -1 ≤ x ∧ x ≤ 1114112) : Few { p with T := p.T ++ [x] } 200 := few_up (few_ap0 h [x] (Drawn.one hx)) (by simp)
theorem few_ap1 {p : Prt} {m : Nat} (h : Few p m) (news : List Int) (k : Drawn news) : Few { p with F := p.F ++ news } (m + news.length) :=
  ⟨h.t, (h.f.app k), h.n, by have := h.lt; simp; try omega, by have := h.lf; simp; try omega, by have := h.ln; simp; try omega, h.l, h.s, h.e⟩
theorem few_app1 {p : Prt} (h : Few p 40) {x : Int} (hx : -1 ≤ x ∧ x ≤ 1114112) : Few { p with F := p.F ++ [x] } 200 := few_up (few_ap1 h [x] (Drawn.one hx)) (by simp)
theorem few_ap2 {p : Prt} {m : Nat} (h : Few p m) (news : List Int) (k : Drawn news) : Few { p with N := p.N ++ news } (m + news.length) :=
  ⟨h.t, h.f, (h.n.app k), by have := h.lt; simp; try omega, by have := h.lf; simp; try omega, by have := h.ln; simp; try omega, h.l, h.s, h.e⟩
theorem few_app2 {p : Prt} (h : Few p 40) {x : Int} (hx : -1 ≤ x ∧ x ≤ 1114112) : Few { p with N := p.N ++ [x] } 200 := few_up (few_ap2 h [x] (Drawn.one hx)) (by simp)
theorem few_put3 {p : Prt} (h : Few p 40) {x : Int} (hx : -1 ≤ x ∧ x ≤ 127) : Few { p with L := x } 200 := let k := few_up h (n := 200) (by omega); ⟨k.t, k.f, k.n, k.lt, k.lf, k.ln, hx, k.s, k.e⟩
theorem few_put4 {p : Prt} (h : Few p 40) {x : Int} (hx : -1 ≤ x ∧ x ≤ 127) : Few { p with S := x } 200 := let k := few_up h (n := 200) (by omega); ⟨k.t, k.f, k.n, k.lt, k.lf, k.ln, k.l, hx, k.e⟩
theorem few_put5 {p : Prt} (h : Few p 40) {x : Int} (hx : -1 ≤ x ∧ x ≤ 127) : Few { p with E := x } 200 := let k := few_up h (n := 200) (by omega); ⟨k.t, k.f, k.n, k.lt, k.lf, k.ln, k.l, k.s, hx⟩
theorem few_now {p : Prt} (h : Few p 40) {ns : List Int} (hn : Drawn ns) (hl : ns.length ≤ 40) : Few { p with N := ns } 200 := let k := few_up h (n := 200) (by omega); ⟨k.t, k.f, hn, k.lt, k.lf, by show ns.length ≤ 200; omega, k.l, k.s, k.e⟩
theorem drawn_set {ns : List Int} (h : Drawn ns) (j : Nat) {x : Int} (hx : -1 ≤ x ∧ x ≤ 1114112) : Drawn (ns.set j x) := fun t ht => by
  rcases List.mem_or_eq_of_mem_set ht with ht | rfl
  · exact h t ht
  · exact hx
theorem pick6 (y : Int) (hy : -1 ≤ y ∧ y ≤ 1114112) : ∀ t ∈ ([y, 13, 0, 1, 4, 8] : List Int), -1 ≤ t ∧ t ≤ 1114112 := by
  intro t ht
  simp only [List.mem_cons, List.not_mem_nil, or_false] at ht
  omega
theorem few_up2 {q r : Prt} {m n a b c : Nat} (h : Few r n) (k : Few q m) {s t : Prt} (_ : s.T.length = a + 1) (_ : s.F.length = b) (_ : s.N.length = c) (_ : t.T.length = a + 1) (_ : t.F.length = b + 1) (_ : t.N.length = c) (e0 : r.T.length = a + 1) (e1 : r.F.length = b + 1) (e2 : r.N.length = c + 1) (g0 : q.T.length = a) (g1 : q.F.length = b) (g2 : q.N.length = c) : Few r (m + 1) :=
  ⟨h.t, h.f, h.n, by have := k.lt; omega, by have := k.lf; omega, by have := k.ln; omega, h.l, h.s, h.e⟩
theorem rd_base {w : World} {a b : Nat} {xs : List Value} (e : a = b) (h : Rd w (a + 1) (some ⟨a, 0, none⟩) xs) : Rd w (b + 1) (some ⟨b, 0, none⟩) xs := by subst e; exact h
set_option maxRecDepth 100000 in
set_option maxHeartbeats 16000000 in
theorem l7Bent_any (g : Nat) (zs : List Int) (w : World) (hs : Src w g zs 0) (hb : ∀ b ∈ zs, isByte b) (hl : zs.length < 2000000) :
    Calls Tryd.prog 33 #[.pointer (some ⟨g, 0, none⟩)] w fun e w' => (∃ v0 v1 v2 p, e = .returned (.agg #[v0, v1, v2, .int .i64 p.L, .int .i64 p.S, .int .i64 p.E]) ∧ OwnPart w' w.heap.size w'.heap.size 2 v0 v1 v2 p ∧ Few p 200) ∧ Out g (g + 1) w w' := by
  obtain ⟨i0, hi, hz0, hz1, hz2⟩ := info_parts info_int64
  have HB := Lib.hid hb
  have gl := hs.lt
  have K0 := Blk.new w 26 #[.slice none 0 0, .slice none 0 0, .slice none 0 0, .int .i64 0, .int .i64 0, .int .i64 0]
  have o0 := (Out.refl g (g + 1) w).alloc (.cells #[.slice none 0 0, .slice none 0 0, .slice none 0 0, .int .i64 0, .int .i64 0, .int .i64 0] 26)
  have S0 := hs.alloc (.cells #[.slice none 0 0, .slice none 0 0, .slice none 0 0, .int .i64 0, .int .i64 0, .int .i64 0] 26)
  have z0 : (w.alloc (.cells #[.slice none 0 0, .slice none 0 0, .slice none 0 0, .int .i64 0, .int .i64 0, .int .i64 0] 26)).heap.size = w.heap.size + 1 := by simp
  have K1 := Lib.hid K0
  have A1 := Lib.hid o0
  have S1 := Lib.hid S0
  have LO := Lib.hid z0
  clear K0 o0 S0 z0 hs hb
  go_enter Tryd.func33, Tryd.ntmps33
  go_wp2_with fail
  generalize w.alloc (.cells #[.slice none 0 0, .slice none 0 0, .slice none 0 0, .int .i64 0, .int .i64 0, .int .i64 0] 26) = wa at *
  refine (l7Draw_any g zs wa S1.out HB.out hl).mono ?_
  rintro e w1 ⟨⟨u0, u1, u2, p, at1, rfl, own1, few1, src1, at0, at9⟩, o1⟩
  obtain ⟨A0, c0, rfl⟩ := own1.o0.form
  obtain ⟨AF, cF, rfl⟩ := own1.o1.form
  obtain ⟨AN, cN, rfl⟩ := own1.o2.form
  have s1 := o1.size
  have B0 : (Value.slice A0 p.T.length c0).ownBlock ≠ some w1.heap.size := fun e => by have := own1.o0.2 _ e; omega
  have B1 : (Value.slice AF p.F.length cF).ownBlock ≠ some w1.heap.size := fun e => by have := own1.o1.2 _ e; omega
  have B2 : (Value.slice AN p.N.length cN).ownBlock ≠ some w1.heap.size := fun e => by have := own1.o2.2 _ e; omega
  have al := (Out.refl g (g + 1) w1).alloc (.cells #[.slice A0 p.T.length c0, .slice AF p.F.length cF, .slice AN p.N.length cN, .int .i64 p.L, .int .i64 p.S, .int .i64 p.E] 26)
  have D2 := Lib.hid (show DQ (w1.alloc (.cells #[.slice A0 p.T.length c0, .slice AF p.F.length cF, .slice AN p.N.length cN, .int .i64 p.L, .int .i64 p.S, .int .i64 p.E] 26)) g w1.heap.size wa.heap.size zs at1 (.slice A0 p.T.length c0) (.slice AF p.F.length cF) (.slice AN p.N.length cN) p from
    ⟨Blk.new w1 _ _, (own1.outP al (.inr (by have := LO.out; omega))).moreP al.size, src1.alloc _, by have := LO.out; omega, src1.lt, B0, B1, B2⟩)
  have K2 := Lib.hid ((K1.out.out o1 (.inr (by omega))).alloc (.cells #[.slice A0 p.T.length c0, .slice AF p.F.length cF, .slice AN p.N.length cN, .int .i64 p.L, .int .i64 p.S, .int .i64 p.E] 26))
  have A2 := Lib.hid ((A1.out.trans o1).alloc (.cells #[.slice A0 p.T.length c0, .slice AF p.F.length cF, .slice AN p.N.length cN, .int .i64 p.L, .int .i64 p.S, .int .i64 p.E] 26))
  have FW := Lib.hid few1
  have GP := Lib.hid (show w.heap.size < w1.heap.size by have := LO.out; omega)
  clear own1 few1 src1 o1 s1 B0 B1 B2 al K1 A1 S1
  go_wp2_with fail
  generalize w1.alloc (.cells #[.slice A0 p.T.length c0, .slice AF p.F.length cF, .slice AN p.N.length cN, .int .i64 p.L, .int .i64 p.S, .int .i64 p.E] 26) = w2 at *
  generalize w1.heap.size = gp at *
  refine (next_src g zs at1 16 w2 D2.out.src HB.out hl (by omega) (by omega)).mono ?_
  rintro e w3 ⟨rfl, hs3, o3⟩
  obtain ⟨M, hM⟩ : ∃ M : Int, Hid (nxt zs at1 16 = M) := ⟨_, Lib.hid rfl⟩
  rw [hM.out]
  have D3 := Lib.hid (D2.out.call o3 hs3)
  have K3 := Lib.hid (K2.out.out o3 (.inr (by omega)))
  have A3 := Lib.hid (A2.out.trans o3)
  clear hs3 o3 D2 K2 A2
  have l0 := FW.out.lt
  have l1 := FW.out.lf
  have l2 := FW.out.ln
  by_cases h0 : M = 0
  · subst h0
    have LIT := Lib.hid (show Blk (w3.alloc (.cells #[.int .i64 97, .int .i64 (-1)] 2)).drew w3.heap.size 2 (nums .i64 [97, -1]).toArray from Blk.new w3 2 (nums .i64 [97, -1]).toArray)
    have D6 := Lib.hid (show DQ (w3.alloc (.cells #[.int .i64 97, .int .i64 (-1)] 2)).drew g gp wa.heap.size zs (at1 + 1) (.slice A0 p.T.length c0) (.slice AF p.F.length cF) (.slice AN p.N.length cN) p from (D3.out.alloc (.cells #[.int .i64 97, .int .i64 (-1)] 2)).drew 1)
    have K6 := Lib.hid (show Blk (w3.alloc (.cells #[.int .i64 97, .int .i64 (-1)] 2)).drew w.heap.size 26 _ from K3.out.alloc (.cells #[.int .i64 97, .int .i64 (-1)] 2))
    have A6 := Lib.hid (show Out g (g + 1) w (w3.alloc (.cells #[.int .i64 97, .int .i64 (-1)] 2)).drew from (A3.out.alloc (.cells #[.int .i64 97, .int .i64 (-1)] 2)).drew 1)
    have pr := Lib.hid ((by decide : ∀ y ∈ ([97, -1] : List Int), -1 ≤ y ∧ y ≤ 1114112) _ (pick_in [97, -1] zs (at1 + 1) 2 rfl (by omega)))
    have gne : w3.heap.size ≠ g := by have := D3.out.src.lt; omega
    have CP := Lib.hid (l1Pick_any g w3.heap.size 2 2 [97, -1] zs (at1 + 1) (w3.alloc (.cells #[.int .i64 97, .int .i64 (-1)] 2)).drew LIT.out gne rfl (by omega) (by omega) D6.out.src HB.out hl (by omega))
    obtain ⟨x, hx⟩ : ∃ x : Int, Hid (nth [97, -1] (nxt zs (at1 + 1) ((2 : Nat) : Int)).toNat = x) := ⟨_, Lib.hid rfl⟩
    rw [hx.out] at pr CP
    have f30 := D3.out.blk.cell 0 (u := .slice A0 p.T.length c0) rfl
    have f60 : (w3.alloc (.cells #[.int .i64 97, .int .i64 (-1)] 2)).drew.cell? ⟨gp, 0, none⟩ = some (.slice A0 p.T.length c0) := D6.out.blk.cell 0 rfl
    have tb : (p.T.length + 1) * 8 ≤ 140737488355328 := by omega
    have tm : p.T.length + 1 ≤ 140737488355328 := by omega
    have FQ := Lib.hid (few_app0 FW.out (x := x) pr.out)
    clear gne
    go_wp2
    go_region_law (first
      | (refine step_call (by rfl) ?_; go_simp; go_at_call 61; refine CP.out.mono ?_; rintro e w7 ⟨rfl, hs7, o7⟩
         have D7 := Lib.hid (D6.out.call o7 hs7)
         have K7 := Lib.hid (K6.out.out o7 (.inr (by omega)))
         have A7 := Lib.hid (A6.out.trans o7)
         have D8 := Lib.hid (D7.out.alloc (.cells #[.int .i64 x] 2))
         have K8 := Lib.hid (K7.out.alloc (.cells #[.int .i64 x] 2))
         have R8 := Lib.hid (Rd.lit w7 #[.int .i64 x] 2)
         have g8 : wa.heap.size ≤ (w7.alloc (.cells #[.int .i64 x] 2)).heap.size := by have := K8.out.lt; have := LO.out; omega
         have f70 := D7.out.blk.cell 0 (u := .slice A0 p.T.length c0) rfl
         have f80 := D8.out.blk.cell 0 (u := .slice A0 p.T.length c0) rfl
         clear hs7 o7)
      | (refine step_apps (by rfl) _ _ _ (by rfl) wa.heap.size Tryd.underlying24 hi hz0 hz1 hz2 rfl (by omega) (by rfl) D8.out.own.o0.1 (by rfl) (m := 1) R8.out rfl (nums_one .i64 [x]) tb tm g8 ?_; intro v' w9 o9 g9 a9
         obtain ⟨A9, c9, rfl⟩ := own_form o9
         have D9 := Lib.hid (DQ.app0 (news := [x]) (m := 1) D8.out o9 rfl g9 a9)
         have b9 : Blk w9 gp 26 _ := (g9.block gp D8.out.blk.lt (fun e => D8.out.b0 e.symm)).trans D8.out.blk
         have f90 := b9.cell 0 (u := .slice A0 p.T.length c0) rfl
         have ff90 := b9.frozen 0
         have K9 := Lib.hid (show Blk (w9.setCell ⟨gp, 0, none⟩ (.slice A9 (p.T.length + 1) c9)) w.heap.size 26 _ from (heap_setCell_other w9 _ _ _ (by have := GP.out; show w.heap.size ≠ gp; omega)).trans ((g9.block w.heap.size K8.out.lt (by intro e; have := (D8.out.own.o0.lt _ e.symm).1; have := LO.out; omega)).trans K8.out))
         have A9' := Lib.hid (((A7.out.alloc (.cells #[.int .i64 x] 2)).later (Out.of_grown (lo := wa.heap.size) (hi := (w7.alloc (.cells #[.int .i64 x] 2)).heap.size) g9 (fun b hb => D8.out.own.o0.lt b hb)) (by have := LO.out; omega)).set ⟨gp, 0, none⟩ (.slice A9 (p.T.length + 1) c9) (by show w.heap.size ≤ gp; have := GP.out; omega))
         clear o9 g9 a9 b9))
    clear f30 f60
    all_goals
      obtain ⟨q, hq⟩ : ∃ q : Prt, q = { p with T := p.T ++ [x] } := ⟨_, rfl⟩
      rw [← hq] at D9 FQ
      clear hq f70 f80 f90 ff90
      have g0 := D9.out.blk.cell 0 (u := .slice A9 (p.T.length + 1) c9) rfl
      have g1 := D9.out.blk.cell 1 (u := .slice AF p.F.length cF) rfl
      have g2 := D9.out.blk.cell 2 (u := .slice AN p.N.length cN) rfl
      have g3 := D9.out.blk.cell 3 (u := .int .i64 q.L) rfl
      have g4 := D9.out.blk.cell 4 (u := .int .i64 q.S) rfl
      have g5 := D9.out.blk.cell 5 (u := .int .i64 q.E) rfl
      have hd0 := K9.out.cell 0 (u := .slice none 0 0) rfl
      have hd1 := K9.out.cell 1 (u := .slice none 0 0) rfl
      have hd2 := K9.out.cell 2 (u := .slice none 0 0) rfl
      have hd3 := K9.out.cell 3 (u := .int .i64 0) rfl
      have hd4 := K9.out.cell 4 (u := .int .i64 0) rfl
      have hd5 := K9.out.cell 5 (u := .int .i64 0) rfl
      have hf0 := K9.out.frozen 0
      have hf1 := K9.out.frozen 1
      have hf2 := K9.out.frozen 2
      have hf3 := K9.out.frozen 3
      have hf4 := K9.out.frozen 4
      have hf5 := K9.out.frozen 5
      go_wp2
      refine bodyPost_ret (v := .agg #[.slice A9 (p.T.length + 1) c9, .slice AF p.F.length cF, .slice AN p.N.length cN, .int .i64 q.L, .int .i64 q.S, .int .i64 q.E]) (by simp [results, Tryd.results33, go_sem, hd0, hd1, hd2, hd3, hd4, hd5]) rfl ?_
      refine ⟨⟨_, _, _, q, rfl, ?_, FQ.out⟩, ?_⟩
      · exact ((D9.out.own.outP (out_set6 _ _ _ _ _ _ _ _) (.inr (by have := LO.out; omega))).moreP (by simp)).wide (by have := LO.out; omega)
      · exact A9'.out.later (out_set6 _ _ _ _ _ _ _ _) (Nat.le_refl _)
  · have n0 : (M == 0) = false := by simpa using h0
    by_cases h1 : M = 1
    · subst h1
      have LIT := Lib.hid (show Blk (w3.alloc (.cells #[.int .i64 0, .int .i64 23] 2)).drew w3.heap.size 2 (nums .i64 [0, 23]).toArray from Blk.new w3 2 (nums .i64 [0, 23]).toArray)
      have D6 := Lib.hid (show DQ (w3.alloc (.cells #[.int .i64 0, .int .i64 23] 2)).drew g gp wa.heap.size zs (at1 + 1) (.slice A0 p.T.length c0) (.slice AF p.F.length cF) (.slice AN p.N.length cN) p from (D3.out.alloc (.cells #[.int .i64 0, .int .i64 23] 2)).drew 1)
      have K6 := Lib.hid (show Blk (w3.alloc (.cells #[.int .i64 0, .int .i64 23] 2)).drew w.heap.size 26 _ from K3.out.alloc (.cells #[.int .i64 0, .int .i64 23] 2))
      have A6 := Lib.hid (show Out g (g + 1) w (w3.alloc (.cells #[.int .i64 0, .int .i64 23] 2)).drew from (A3.out.alloc (.cells #[.int .i64 0, .int .i64 23] 2)).drew 1)
      have pr := Lib.hid ((by decide : ∀ y ∈ ([0, 23] : List Int), -1 ≤ y ∧ y ≤ 1114112) _ (pick_in [0, 23] zs (at1 + 1) 2 rfl (by omega)))
      have gne : w3.heap.size ≠ g := by have := D3.out.src.lt; omega
      have CP := Lib.hid (l1Pick_any g w3.heap.size 2 2 [0, 23] zs (at1 + 1) (w3.alloc (.cells #[.int .i64 0, .int .i64 23] 2)).drew LIT.out gne rfl (by omega) (by omega) D6.out.src HB.out hl (by omega))
      obtain ⟨x, hx⟩ : ∃ x : Int, Hid (nth [0, 23] (nxt zs (at1 + 1) ((2 : Nat) : Int)).toNat = x) := ⟨_, Lib.hid rfl⟩
      rw [hx.out] at pr CP
      have f30 := D3.out.blk.cell 1 (u := .slice AF p.F.length cF) rfl
      have f60 : (w3.alloc (.cells #[.int .i64 0, .int .i64 23] 2)).drew.cell? ⟨gp, 1, none⟩ = some (.slice AF p.F.length cF) := D6.out.blk.cell 1 rfl
      have tb : (p.F.length + 1) * 8 ≤ 140737488355328 := by omega
      have tm : p.F.length + 1 ≤ 140737488355328 := by omega
      have FQ := Lib.hid (few_app1 FW.out (x := x) pr.out)
      clear gne
      go_wp2
      go_region_law (first
        | (refine step_call (by rfl) ?_; go_simp; go_at_call 61; refine CP.out.mono ?_; rintro e w7 ⟨rfl, hs7, o7⟩
           have D7 := Lib.hid (D6.out.call o7 hs7)
           have K7 := Lib.hid (K6.out.out o7 (.inr (by omega)))
           have A7 := Lib.hid (A6.out.trans o7)
           have D8 := Lib.hid (D7.out.alloc (.cells #[.int .i64 x] 2))
           have K8 := Lib.hid (K7.out.alloc (.cells #[.int .i64 x] 2))
           have R8 := Lib.hid (Rd.lit w7 #[.int .i64 x] 2)
           have g8 : wa.heap.size ≤ (w7.alloc (.cells #[.int .i64 x] 2)).heap.size := by have := K8.out.lt; have := LO.out; omega
           have f70 := D7.out.blk.cell 1 (u := .slice AF p.F.length cF) rfl
           have f80 := D8.out.blk.cell 1 (u := .slice AF p.F.length cF) rfl
           clear hs7 o7)
        | (refine step_apps (by rfl) _ _ _ (by rfl) wa.heap.size Tryd.underlying24 hi hz0 hz1 hz2 rfl (by omega) (by rfl) D8.out.own.o1.1 (by rfl) (m := 1) R8.out rfl (nums_one .i64 [x]) tb tm g8 ?_; intro v' w9 o9 g9 a9
           obtain ⟨A9, c9, rfl⟩ := own_form o9
           have D9 := Lib.hid (DQ.app1 (news := [x]) (m := 1) D8.out o9 rfl g9 a9)
           have b9 : Blk w9 gp 26 _ := (g9.block gp D8.out.blk.lt (fun e => D8.out.b1 e.symm)).trans D8.out.blk
           have f90 := b9.cell 1 (u := .slice AF p.F.length cF) rfl
           have ff90 := b9.frozen 1
           have K9 := Lib.hid (show Blk (w9.setCell ⟨gp, 1, none⟩ (.slice A9 (p.F.length + 1) c9)) w.heap.size 26 _ from (heap_setCell_other w9 _ _ _ (by have := GP.out; show w.heap.size ≠ gp; omega)).trans ((g9.block w.heap.size K8.out.lt (by intro e; have := (D8.out.own.o1.lt _ e.symm).1; have := LO.out; omega)).trans K8.out))
           have A9' := Lib.hid (((A7.out.alloc (.cells #[.int .i64 x] 2)).later (Out.of_grown (lo := wa.heap.size) (hi := (w7.alloc (.cells #[.int .i64 x] 2)).heap.size) g9 (fun b hb => D8.out.own.o1.lt b hb)) (by have := LO.out; omega)).set ⟨gp, 1, none⟩ (.slice A9 (p.F.length + 1) c9) (by show w.heap.size ≤ gp; have := GP.out; omega))
           clear o9 g9 a9 b9))
      clear f30 f60
      all_goals
        obtain ⟨q, hq⟩ : ∃ q : Prt, q = { p with F := p.F ++ [x] } := ⟨_, rfl⟩
        rw [← hq] at D9 FQ
        clear hq f70 f80 f90 ff90
        have g0 := D9.out.blk.cell 0 (u := .slice A0 p.T.length c0) rfl
        have g1 := D9.out.blk.cell 1 (u := .slice A9 (p.F.length + 1) c9) rfl
        have g2 := D9.out.blk.cell 2 (u := .slice AN p.N.length cN) rfl
        have g3 := D9.out.blk.cell 3 (u := .int .i64 q.L) rfl
        have g4 := D9.out.blk.cell 4 (u := .int .i64 q.S) rfl
        have g5 := D9.out.blk.cell 5 (u := .int .i64 q.E) rfl
        have hd0 := K9.out.cell 0 (u := .slice none 0 0) rfl
        have hd1 := K9.out.cell 1 (u := .slice none 0 0) rfl
        have hd2 := K9.out.cell 2 (u := .slice none 0 0) rfl
        have hd3 := K9.out.cell 3 (u := .int .i64 0) rfl
        have hd4 := K9.out.cell 4 (u := .int .i64 0) rfl
        have hd5 := K9.out.cell 5 (u := .int .i64 0) rfl
        have hf0 := K9.out.frozen 0
        have hf1 := K9.out.frozen 1
        have hf2 := K9.out.frozen 2
        have hf3 := K9.out.frozen 3
        have hf4 := K9.out.frozen 4
        have hf5 := K9.out.frozen 5
        go_wp2
        refine bodyPost_ret (v := .agg #[.slice A0 p.T.length c0, .slice A9 (p.F.length + 1) c9, .slice AN p.N.length cN, .int .i64 q.L, .int .i64 q.S, .int .i64 q.E]) (by simp [results, Tryd.results33, go_sem, hd0, hd1, hd2, hd3, hd4, hd5]) rfl ?_
        refine ⟨⟨_, _, _, q, rfl, ?_, FQ.out⟩, ?_⟩
        · exact ((D9.out.own.outP (out_set6 _ _ _ _ _ _ _ _) (.inr (by have := LO.out; omega))).moreP (by simp)).wide (by have := LO.out; omega)
        · exact A9'.out.later (out_set6 _ _ _ _ _ _ _ _) (Nat.le_refl _)
    · have n1 : (M == 1) = false := by simpa using h1
      by_cases h2 : M = 2
      · subst h2
        have LIT := Lib.hid (show Blk (w3.alloc (.cells #[.int .i64 0, .int .i64 (-1)] 2)).drew w3.heap.size 2 (nums .i64 [0, -1]).toArray from Blk.new w3 2 (nums .i64 [0, -1]).toArray)
        have D6 := Lib.hid (show DQ (w3.alloc (.cells #[.int .i64 0, .int .i64 (-1)] 2)).drew g gp wa.heap.size zs (at1 + 1) (.slice A0 p.T.length c0) (.slice AF p.F.length cF) (.slice AN p.N.length cN) p from (D3.out.alloc (.cells #[.int .i64 0, .int .i64 (-1)] 2)).drew 1)
        have K6 := Lib.hid (show Blk (w3.alloc (.cells #[.int .i64 0, .int .i64 (-1)] 2)).drew w.heap.size 26 _ from K3.out.alloc (.cells #[.int .i64 0, .int .i64 (-1)] 2))
        have A6 := Lib.hid (show Out g (g + 1) w (w3.alloc (.cells #[.int .i64 0, .int .i64 (-1)] 2)).drew from (A3.out.alloc (.cells #[.int .i64 0, .int .i64 (-1)] 2)).drew 1)
        have pr := Lib.hid ((by decide : ∀ y ∈ ([0, -1] : List Int), -1 ≤ y ∧ y ≤ 1114112) _ (pick_in [0, -1] zs (at1 + 1) 2 rfl (by omega)))
        have gne : w3.heap.size ≠ g := by have := D3.out.src.lt; omega
        have CP := Lib.hid (l1Pick_any g w3.heap.size 2 2 [0, -1] zs (at1 + 1) (w3.alloc (.cells #[.int .i64 0, .int .i64 (-1)] 2)).drew LIT.out gne rfl (by omega) (by omega) D6.out.src HB.out hl (by omega))
        obtain ⟨x, hx⟩ : ∃ x : Int, Hid (nth [0, -1] (nxt zs (at1 + 1) ((2 : Nat) : Int)).toNat = x) := ⟨_, Lib.hid rfl⟩
        rw [hx.out] at pr CP
        have f30 := D3.out.blk.cell 2 (u := .slice AN p.N.length cN) rfl
        have f60 : (w3.alloc (.cells #[.int .i64 0, .int .i64 (-1)] 2)).drew.cell? ⟨gp, 2, none⟩ = some (.slice AN p.N.length cN) := D6.out.blk.cell 2 rfl
        have tb : (p.N.length + 1) * 8 ≤ 140737488355328 := by omega
        have tm : p.N.length + 1 ≤ 140737488355328 := by omega
        have FQ := Lib.hid (few_app2 FW.out (x := x) pr.out)
        clear gne
        go_wp2
        go_region_law (first
          | (refine step_call (by rfl) ?_; go_simp; go_at_call 61; refine CP.out.mono ?_; rintro e w7 ⟨rfl, hs7, o7⟩
             have D7 := Lib.hid (D6.out.call o7 hs7)
             have K7 := Lib.hid (K6.out.out o7 (.inr (by omega)))
             have A7 := Lib.hid (A6.out.trans o7)
             have D8 := Lib.hid (D7.out.alloc (.cells #[.int .i64 x] 2))
             have K8 := Lib.hid (K7.out.alloc (.cells #[.int .i64 x] 2))
             have R8 := Lib.hid (Rd.lit w7 #[.int .i64 x] 2)
             have g8 : wa.heap.size ≤ (w7.alloc (.cells #[.int .i64 x] 2)).heap.size := by have := K8.out.lt; have := LO.out; omega
             have f70 := D7.out.blk.cell 2 (u := .slice AN p.N.length cN) rfl
             have f80 := D8.out.blk.cell 2 (u := .slice AN p.N.length cN) rfl
             clear hs7 o7)
          | (refine step_apps (by rfl) _ _ _ (by rfl) wa.heap.size Tryd.underlying24 hi hz0 hz1 hz2 rfl (by omega) (by rfl) D8.out.own.o2.1 (by rfl) (m := 1) R8.out rfl (nums_one .i64 [x]) tb tm g8 ?_; intro v' w9 o9 g9 a9
             obtain ⟨A9, c9, rfl⟩ := own_form o9
             have D9 := Lib.hid (DQ.app2 (news := [x]) (m := 1) D8.out o9 rfl g9 a9)
             have b9 : Blk w9 gp 26 _ := (g9.block gp D8.out.blk.lt (fun e => D8.out.b2 e.symm)).trans D8.out.blk
             have f90 := b9.cell 2 (u := .slice AN p.N.length cN) rfl
             have ff90 := b9.frozen 2
             have K9 := Lib.hid (show Blk (w9.setCell ⟨gp, 2, none⟩ (.slice A9 (p.N.length + 1) c9)) w.heap.size 26 _ from (heap_setCell_other w9 _ _ _ (by have := GP.out; show w.heap.size ≠ gp; omega)).trans ((g9.block w.heap.size K8.out.lt (by intro e; have := (D8.out.own.o2.lt _ e.symm).1; have := LO.out; omega)).trans K8.out))
             have A9' := Lib.hid (((A7.out.alloc (.cells #[.int .i64 x] 2)).later (Out.of_grown (lo := wa.heap.size) (hi := (w7.alloc (.cells #[.int .i64 x] 2)).heap.size) g9 (fun b hb => D8.out.own.o2.lt b hb)) (by have := LO.out; omega)).set ⟨gp, 2, none⟩ (.slice A9 (p.N.length + 1) c9) (by show w.heap.size ≤ gp; have := GP.out; omega))
             clear o9 g9 a9 b9))
        clear f30 f60
        all_goals
          obtain ⟨q, hq⟩ : ∃ q : Prt, q = { p with N := p.N ++ [x] } := ⟨_, rfl⟩
          rw [← hq] at D9 FQ
          clear hq f70 f80 f90 ff90
          have g0 := D9.out.blk.cell 0 (u := .slice A0 p.T.length c0) rfl
          have g1 := D9.out.blk.cell 1 (u := .slice AF p.F.length cF) rfl
          have g2 := D9.out.blk.cell 2 (u := .slice A9 (p.N.length + 1) c9) rfl
          have g3 := D9.out.blk.cell 3 (u := .int .i64 q.L) rfl
          have g4 := D9.out.blk.cell 4 (u := .int .i64 q.S) rfl
          have g5 := D9.out.blk.cell 5 (u := .int .i64 q.E) rfl
          have hd0 := K9.out.cell 0 (u := .slice none 0 0) rfl
          have hd1 := K9.out.cell 1 (u := .slice none 0 0) rfl
          have hd2 := K9.out.cell 2 (u := .slice none 0 0) rfl
          have hd3 := K9.out.cell 3 (u := .int .i64 0) rfl
          have hd4 := K9.out.cell 4 (u := .int .i64 0) rfl
          have hd5 := K9.out.cell 5 (u := .int .i64 0) rfl
          have hf0 := K9.out.frozen 0
          have hf1 := K9.out.frozen 1
          have hf2 := K9.out.frozen 2
          have hf3 := K9.out.frozen 3
          have hf4 := K9.out.frozen 4
          have hf5 := K9.out.frozen 5
          go_wp2
          refine bodyPost_ret (v := .agg #[.slice A0 p.T.length c0, .slice AF p.F.length cF, .slice A9 (p.N.length + 1) c9, .int .i64 q.L, .int .i64 q.S, .int .i64 q.E]) (by simp [results, Tryd.results33, go_sem, hd0, hd1, hd2, hd3, hd4, hd5]) rfl ?_
          refine ⟨⟨_, _, _, q, rfl, ?_, FQ.out⟩, ?_⟩
          · exact ((D9.out.own.outP (out_set6 _ _ _ _ _ _ _ _) (.inr (by have := LO.out; omega))).moreP (by simp)).wide (by have := LO.out; omega)
          · exact A9'.out.later (out_set6 _ _ _ _ _ _ _ _) (Nat.le_refl _)
      · have n2 : (M == 2) = false := by simpa using h2
        by_cases h3 : M = 3
        · subst h3
          have D6 := Lib.hid (D3.out.alloc (.cells #[.int .i64 (-1), .int .i64 126, .int .i64 127] 2))
          have K6 := Lib.hid (K3.out.alloc (.cells #[.int .i64 (-1), .int .i64 126, .int .i64 127] 2))
          have A6 := Lib.hid (A3.out.alloc (.cells #[.int .i64 (-1), .int .i64 126, .int .i64 127] 2))
          have pr := Lib.hid ((by decide : ∀ y ∈ ([-1, 126, 127] : List Int), -1 ≤ y ∧ y ≤ 127) _ (pick_in [-1, 126, 127] zs (at1 + 1) 3 rfl (by omega)))
          have gne : w3.heap.size ≠ g := by have := D3.out.src.lt; omega
          go_wp2_with fail
          refine (l1Pick_any g w3.heap.size 3 2 [-1, 126, 127] zs (at1 + 1) _ (Blk.new w3 _ _) gne rfl (by omega) (by omega) D6.out.src HB.out hl (by omega)).mono ?_
          rintro e w7 ⟨rfl, hs7, o7⟩
          obtain ⟨x, hx⟩ : ∃ x : Int, Hid (nth [-1, 126, 127] (nxt zs (at1 + 1) ((3 : Nat) : Int)).toNat = x) := ⟨_, Lib.hid rfl⟩
          rw [hx.out] at pr ⊢
          have D7 := Lib.hid (D6.out.call o7 hs7)
          have K7 := Lib.hid (K6.out.out o7 (.inr (by omega)))
          have D9 := Lib.hid (D7.out.put3 x)
          have K9 := Lib.hid (show Blk (w7.setCell ⟨gp, 3, none⟩ (.int .i64 x)) w.heap.size 26 _ from (heap_setCell_other w7 _ _ _ (by have := GP.out; show w.heap.size ≠ gp; omega)).trans K7.out)
          have A9' := Lib.hid ((A6.out.trans o7).set ⟨gp, 3, none⟩ (.int .i64 x) (by show w.heap.size ≤ gp; have := GP.out; omega))
          have f7 := D7.out.blk.cell 3 (u := .int .i64 p.L) rfl
          have ff7 := D7.out.blk.frozen 3
          have FQ := Lib.hid (few_put3 FW.out (x := x) pr.out)
          clear hs7 o7 gne D6 K6 A6 pr
          have g0 := D9.out.blk.cell 0 (u := .slice A0 p.T.length c0) rfl
          have g1 := D9.out.blk.cell 1 (u := .slice AF p.F.length cF) rfl
          have g2 := D9.out.blk.cell 2 (u := .slice AN p.N.length cN) rfl
          have g3 := D9.out.blk.cell 3 (u := .int .i64 x) rfl
          have g4 := D9.out.blk.cell 4 (u := .int .i64 p.S) rfl
          have g5 := D9.out.blk.cell 5 (u := .int .i64 p.E) rfl
          have hd0 := K9.out.cell 0 (u := .slice none 0 0) rfl
          have hd1 := K9.out.cell 1 (u := .slice none 0 0) rfl
          have hd2 := K9.out.cell 2 (u := .slice none 0 0) rfl
          have hd3 := K9.out.cell 3 (u := .int .i64 0) rfl
          have hd4 := K9.out.cell 4 (u := .int .i64 0) rfl
          have hd5 := K9.out.cell 5 (u := .int .i64 0) rfl
          have hf0 := K9.out.frozen 0
          have hf1 := K9.out.frozen 1
          have hf2 := K9.out.frozen 2
          have hf3 := K9.out.frozen 3
          have hf4 := K9.out.frozen 4
          have hf5 := K9.out.frozen 5
          go_wp2
          refine bodyPost_ret (v := .agg #[.slice A0 p.T.length c0, .slice AF p.F.length cF, .slice AN p.N.length cN, .int .i64 x, .int .i64 p.S, .int .i64 p.E]) (by simp [results, Tryd.results33, go_sem, hd0, hd1, hd2, hd3, hd4, hd5]) rfl ?_
          refine ⟨⟨_, _, _, { p with L := x }, rfl, ?_, FQ.out⟩, ?_⟩
          · exact ((D9.out.own.outP (out_set6 _ _ _ _ _ _ _ _) (.inr (by have := LO.out; omega))).moreP (by simp)).wide (by have := LO.out; omega)
          · exact A9'.out.later (out_set6 _ _ _ _ _ _ _ _) (Nat.le_refl _)
        · have n3 : (M == 3) = false := by simpa using h3
          by_cases h4 : M = 4
          · subst h4
            have D6 := Lib.hid (D3.out.alloc (.cells #[.int .i64 2, .int .i64 1] 2))
            have K6 := Lib.hid (K3.out.alloc (.cells #[.int .i64 2, .int .i64 1] 2))
            have A6 := Lib.hid (A3.out.alloc (.cells #[.int .i64 2, .int .i64 1] 2))
            have pr := Lib.hid ((by decide : ∀ y ∈ ([2, 1] : List Int), -1 ≤ y ∧ y ≤ 127) _ (pick_in [2, 1] zs (at1 + 1) 2 rfl (by omega)))
            have gne : w3.heap.size ≠ g := by have := D3.out.src.lt; omega
            go_wp2_with fail
            refine (l1Pick_any g w3.heap.size 2 2 [2, 1] zs (at1 + 1) _ (Blk.new w3 _ _) gne rfl (by omega) (by omega) D6.out.src HB.out hl (by omega)).mono ?_
            rintro e w7 ⟨rfl, hs7, o7⟩
            obtain ⟨x, hx⟩ : ∃ x : Int, Hid (nth [2, 1] (nxt zs (at1 + 1) ((2 : Nat) : Int)).toNat = x) := ⟨_, Lib.hid rfl⟩
            rw [hx.out] at pr ⊢
            have D7 := Lib.hid (D6.out.call o7 hs7)
            have K7 := Lib.hid (K6.out.out o7 (.inr (by omega)))
            have D9 := Lib.hid (D7.out.put4 x)
            have K9 := Lib.hid (show Blk (w7.setCell ⟨gp, 4, none⟩ (.int .i64 x)) w.heap.size 26 _ from (heap_setCell_other w7 _ _ _ (by have := GP.out; show w.heap.size ≠ gp; omega)).trans K7.out)
            have A9' := Lib.hid ((A6.out.trans o7).set ⟨gp, 4, none⟩ (.int .i64 x) (by show w.heap.size ≤ gp; have := GP.out; omega))
            have f7 := D7.out.blk.cell 4 (u := .int .i64 p.S) rfl
            have ff7 := D7.out.blk.frozen 4
            have FQ := Lib.hid (few_put4 FW.out (x := x) pr.out)
            clear hs7 o7 gne D6 K6 A6 pr
            have g0 := D9.out.blk.cell 0 (u := .slice A0 p.T.length c0) rfl
            have g1 := D9.out.blk.cell 1 (u := .slice AF p.F.length cF) rfl
            have g2 := D9.out.blk.cell 2 (u := .slice AN p.N.length cN) rfl
            have g3 := D9.out.blk.cell 3 (u := .int .i64 p.L) rfl
            have g4 := D9.out.blk.cell 4 (u := .int .i64 x) rfl
            have g5 := D9.out.blk.cell 5 (u := .int .i64 p.E) rfl
            have hd0 := K9.out.cell 0 (u := .slice none 0 0) rfl
            have hd1 := K9.out.cell 1 (u := .slice none 0 0) rfl
            have hd2 := K9.out.cell 2 (u := .slice none 0 0) rfl
            have hd3 := K9.out.cell 3 (u := .int .i64 0) rfl
            have hd4 := K9.out.cell 4 (u := .int .i64 0) rfl
            have hd5 := K9.out.cell 5 (u := .int .i64 0) rfl
            have hf0 := K9.out.frozen 0
            have hf1 := K9.out.frozen 1
            have hf2 := K9.out.frozen 2
            have hf3 := K9.out.frozen 3
            have hf4 := K9.out.frozen 4
            have hf5 := K9.out.frozen 5
            go_wp2
            refine bodyPost_ret (v := .agg #[.slice A0 p.T.length c0, .slice AF p.F.length cF, .slice AN p.N.length cN, .int .i64 p.L, .int .i64 x, .int .i64 p.E]) (by simp [results, Tryd.results33, go_sem, hd0, hd1, hd2, hd3, hd4, hd5]) rfl ?_
            refine ⟨⟨_, _, _, { p with S := x }, rfl, ?_, FQ.out⟩, ?_⟩
            · exact ((D9.out.own.outP (out_set6 _ _ _ _ _ _ _ _) (.inr (by have := LO.out; omega))).moreP (by simp)).wide (by have := LO.out; omega)
            · exact A9'.out.later (out_set6 _ _ _ _ _ _ _ _) (Nat.le_refl _)
          · have n4 : (M == 4) = false := by simpa using h4
            by_cases h5 : M = 5
            · subst h5
              have D6 := Lib.hid (D3.out.alloc (.cells #[.int .i64 (-1), .int .i64 0] 2))
              have K6 := Lib.hid (K3.out.alloc (.cells #[.int .i64 (-1), .int .i64 0] 2))
              have A6 := Lib.hid (A3.out.alloc (.cells #[.int .i64 (-1), .int .i64 0] 2))
              have pr := Lib.hid ((by decide : ∀ y ∈ ([-1, 0] : List Int), -1 ≤ y ∧ y ≤ 127) _ (pick_in [-1, 0] zs (at1 + 1) 2 rfl (by omega)))
              have gne : w3.heap.size ≠ g := by have := D3.out.src.lt; omega
              go_wp2_with fail
              refine (l1Pick_any g w3.heap.size 2 2 [-1, 0] zs (at1 + 1) _ (Blk.new w3 _ _) gne rfl (by omega) (by omega) D6.out.src HB.out hl (by omega)).mono ?_
              rintro e w7 ⟨rfl, hs7, o7⟩
              obtain ⟨x, hx⟩ : ∃ x : Int, Hid (nth [-1, 0] (nxt zs (at1 + 1) ((2 : Nat) : Int)).toNat = x) := ⟨_, Lib.hid rfl⟩
              rw [hx.out] at pr ⊢
              have D7 := Lib.hid (D6.out.call o7 hs7)
              have K7 := Lib.hid (K6.out.out o7 (.inr (by omega)))
              have D9 := Lib.hid (D7.out.put5 x)
              have K9 := Lib.hid (show Blk (w7.setCell ⟨gp, 5, none⟩ (.int .i64 x)) w.heap.size 26 _ from (heap_setCell_other w7 _ _ _ (by have := GP.out; show w.heap.size ≠ gp; omega)).trans K7.out)
              have A9' := Lib.hid ((A6.out.trans o7).set ⟨gp, 5, none⟩ (.int .i64 x) (by show w.heap.size ≤ gp; have := GP.out; omega))
              have f7 := D7.out.blk.cell 5 (u := .int .i64 p.E) rfl
              have ff7 := D7.out.blk.frozen 5
              have FQ := Lib.hid (few_put5 FW.out (x := x) pr.out)
              clear hs7 o7 gne D6 K6 A6 pr
              have g0 := D9.out.blk.cell 0 (u := .slice A0 p.T.length c0) rfl
              have g1 := D9.out.blk.cell 1 (u := .slice AF p.F.length cF) rfl
              have g2 := D9.out.blk.cell 2 (u := .slice AN p.N.length cN) rfl
              have g3 := D9.out.blk.cell 3 (u := .int .i64 p.L) rfl
              have g4 := D9.out.blk.cell 4 (u := .int .i64 p.S) rfl
              have g5 := D9.out.blk.cell 5 (u := .int .i64 x) rfl
              have hd0 := K9.out.cell 0 (u := .slice none 0 0) rfl
              have hd1 := K9.out.cell 1 (u := .slice none 0 0) rfl
              have hd2 := K9.out.cell 2 (u := .slice none 0 0) rfl
              have hd3 := K9.out.cell 3 (u := .int .i64 0) rfl
              have hd4 := K9.out.cell 4 (u := .int .i64 0) rfl
              have hd5 := K9.out.cell 5 (u := .int .i64 0) rfl
              have hf0 := K9.out.frozen 0
              have hf1 := K9.out.frozen 1
              have hf2 := K9.out.frozen 2
              have hf3 := K9.out.frozen 3
              have hf4 := K9.out.frozen 4
              have hf5 := K9.out.frozen 5
              go_wp2
              refine bodyPost_ret (v := .agg #[.slice A0 p.T.length c0, .slice AF p.F.length cF, .slice AN p.N.length cN, .int .i64 p.L, .int .i64 p.S, .int .i64 x]) (by simp [results, Tryd.results33, go_sem, hd0, hd1, hd2, hd3, hd4, hd5]) rfl ?_
              refine ⟨⟨_, _, _, { p with E := x }, rfl, ?_, FQ.out⟩, ?_⟩
              · exact ((D9.out.own.outP (out_set6 _ _ _ _ _ _ _ _) (.inr (by have := LO.out; omega))).moreP (by simp)).wide (by have := LO.out; omega)
              · exact A9'.out.later (out_set6 _ _ _ _ _ _ _ _) (Nat.le_refl _)
            · have n5 : (M == 5) = false := by simpa using h5
              by_cases h6 : M = 6
              · subst h6
                have f2 := D3.out.blk.cell 2 (u := .slice AN p.N.length cN) rfl
                obtain ⟨n, hn⟩ : ∃ n, Hid (n = p.N.length) := ⟨_, Lib.hid rfl⟩
                have N40 : n ≤ 40 := by have := hn.out; omega
                rw [← hn.out] at f2 ⊢
                have D4 : Hid (DQ w3 g gp wa.heap.size zs (at1 + 1 + ((0 : Nat) : Int)) (.slice A0 p.T.length c0) (.slice AF p.F.length cF) (.slice AN n cN) p) := Lib.hid (by rw [hn.out]; simpa using D3.out)
                go_wp2
                clear f2 D3
                go_loopw [63] (fun nv wr => ∃ (j : Nat) (ns : List Int), j ≤ n ∧ nv = .int .i64 j ∧ Hid (ns.length = n) ∧ Hid (Drawn ns) ∧ Hid (DQ wr g gp wa.heap.size zs (at1 + 1 + (j : Int)) (.slice A0 p.T.length c0) (.slice AF p.F.length cF) (.slice AN n cN) { p with N := ns }) ∧ Hid (Blk wr w.heap.size 26 #[.slice none 0 0, .slice none 0 0, .slice none 0 0, .int .i64 0, .int .i64 0, .int .i64 0]) ∧ Hid (Out g (g + 1) w wr)) (fun nv _ => n - (intOf nv).toNat)
                case atStart => exact ⟨0, p.N, by omega, rfl, Lib.hid hn.out.symm, Lib.hid FW.out.n, D4, K3, A3⟩
                case round =>
                  clear D4 K3 A3
                  obtain ⟨j, ns, hj, rfl, hnl, hnd, hd, hkk, hou⟩ := hrel
                  by_cases hjl : j < n
                  · obtain ⟨gb, cb, eA, hgb⟩ := own_addr hd.out.own.o2.1 (by have := hnl.out; show 0 < ns.length; omega)
                    have e1 : AN = some ⟨gb, 0, none⟩ := by injection eA
                    subst e1
                    clear eA
                    have row := hd.out.own.o2.1
                    have hrow : wr.ownsRow wa.heap.size 2 1 (.slice (some ⟨gb, 0, none⟩) n cN) n (nums .i64 ns) := by have := row; rw [hnl.out] at this; exact this
                    have y0 := own_cell hrow j hjl
                    have hy := hnd.out (nth ns j) (by unfold nth; rw [List.getElem?_eq_getElem (by rw [hnl.out]; exact hjl)]; exact List.getElem_mem _)
                    obtain ⟨y, hyy⟩ : ∃ y, Hid (nth ns j = y) := ⟨_, Lib.hid rfl⟩
                    rw [hyy.out] at y0 hy
                    have LIT := Lib.hid (show Blk (wr.alloc (.cells #[.int .i64 y, .int .i64 13, .int .i64 0, .int .i64 1, .int .i64 4, .int .i64 8] 2)).drew wr.heap.size 2 (nums .i64 [y, 13, 0, 1, 4, 8]).toArray from Blk.new wr 2 (nums .i64 [y, 13, 0, 1, 4, 8]).toArray)
                    have D6 := Lib.hid (show DQ (wr.alloc (.cells #[.int .i64 y, .int .i64 13, .int .i64 0, .int .i64 1, .int .i64 4, .int .i64 8] 2)).drew g gp wa.heap.size zs (at1 + 1 + (j : Int)) _ _ _ _ from (hd.out.alloc (.cells #[.int .i64 y, .int .i64 13, .int .i64 0, .int .i64 1, .int .i64 4, .int .i64 8] 2)).drew 1)
                    have K6 := Lib.hid (show Blk (wr.alloc (.cells #[.int .i64 y, .int .i64 13, .int .i64 0, .int .i64 1, .int .i64 4, .int .i64 8] 2)).drew w.heap.size 26 _ from hkk.out.alloc (.cells #[.int .i64 y, .int .i64 13, .int .i64 0, .int .i64 1, .int .i64 4, .int .i64 8] 2))
                    have A6 := Lib.hid (show Out g (g + 1) w (wr.alloc (.cells #[.int .i64 y, .int .i64 13, .int .i64 0, .int .i64 1, .int .i64 4, .int .i64 8] 2)).drew from (hou.out.alloc (.cells #[.int .i64 y, .int .i64 13, .int .i64 0, .int .i64 1, .int .i64 4, .int .i64 8] 2)).drew 1)
                    have pr := Lib.hid (pick6 y hy _ (pick_in [y, 13, 0, 1, 4, 8] zs (at1 + 1 + (j : Int)) 6 rfl (by omega)))
                    have gne : wr.heap.size ≠ g := by have := hd.out.src.lt; omega
                    have CP := Lib.hid (l1Pick_any g wr.heap.size 6 2 [y, 13, 0, 1, 4, 8] zs (at1 + 1 + (j : Int)) (wr.alloc (.cells #[.int .i64 y, .int .i64 13, .int .i64 0, .int .i64 1, .int .i64 4, .int .i64 8] 2)).drew LIT.out gne rfl (by omega) (by omega) D6.out.src HB.out hl (by omega))
                    obtain ⟨x, hx⟩ : ∃ x : Int, Hid (nth [y, 13, 0, 1, 4, 8] (nxt zs (at1 + 1 + (j : Int)) ((6 : Nat) : Int)).toNat = x) := ⟨_, Lib.hid rfl⟩
                    rw [hx.out] at pr CP
                    have f20 := hd.out.blk.cell 2 (u := .slice (some ⟨gb, 0, none⟩) n cN) rfl
                    have f26 : (wr.alloc (.cells #[.int .i64 y, .int .i64 13, .int .i64 0, .int .i64 1, .int .i64 4, .int .i64 8] 2)).drew.cell? ⟨gp, 2, none⟩ = some (.slice (some ⟨gb, 0, none⟩) n cN) := D6.out.blk.cell 2 rfl
                    have jl : (j : Int) < (n : Int) := by omega
                    have EA : Hid (at1 + 1 + (j : Int) + 1 = at1 + 1 + ((j + 1 : Nat) : Int)) := Lib.hid (by show at1 + 1 + (j : Int) + 1 = at1 + 1 + ((j + 1 : Nat) : Int); omega)
                    have NL := Lib.hid (show (ns.set j x).length = n by rw [List.length_set]; exact hnl.out)
                    have ND := Lib.hid (drawn_set hnd.out j pr.out)
                    clear gne row hrow hy
                    go_wp2
                    go_region_law (first
                      | (refine step_call (by rfl) ?_; go_simp; go_at_call 61; refine CP.out.mono ?_; rintro e w7 ⟨rfl, hs7, o7⟩
                         have D7 := Lib.hid (D6.out.call o7 hs7)
                         have K7 := Lib.hid (K6.out.out o7 (.inr (by omega)))
                         have A7 := Lib.hid (A6.out.trans o7)
                         have f27 := D7.out.blk.cell 2 (u := .slice (some ⟨gb, 0, none⟩) n cN) rfl
                         have r7 : w7.ownsRow wa.heap.size 2 1 (.slice (some ⟨gb, 0, none⟩) n cN) n (nums .i64 ns) := by have := D7.out.own.o2.1; rw [hnl.out] at this; exact this
                         have y7 := own_cell r7 j hjl
                         have yf := r7.frozenAt j
                         have D9 := Lib.hid (D7.out.cell2 hnl.out.symm j x)
                         have g2 := D7.out.own.o2.lt gb rfl
                         have K9 := Lib.hid (show Blk (w7.setCell ⟨gb, j, none⟩ (.int .i64 x)) w.heap.size 26 _ from (heap_setCell_other w7 _ _ _ (by have := LO.out; show w.heap.size ≠ gb; omega)).trans K7.out)
                         have A9' := Lib.hid (A7.out.set ⟨gb, j, none⟩ (.int .i64 x) (by show w.heap.size ≤ gb; have := LO.out; omega))
                         rw [EA.out] at D9
                         clear hs7 o7 g2 r7))
                    all_goals
                      go_wp2
                      go_roundw
                      case rel => exact ⟨j + 1, ns.set j x, by omega, by go_num, NL, ND, D9, K9, A9'⟩
                      case measure => first | omega | (simp [intOf]; omega)
                  · have jn : decide ((j : Int) < (n : Int)) = false := decide_eq_false (by omega)
                    have jn2 : decide (j < n) = false := decide_eq_false hjl
                    have FQ := Lib.hid (few_now FW.out hnd.out (by rw [hnl.out]; exact N40))
                    obtain ⟨q, hq⟩ : ∃ q : Prt, q = { p with N := ns } := ⟨_, rfl⟩
                    rw [← hq] at hd FQ
                    clear hq hjl
                    have g0 := hd.out.blk.cell 0 (u := .slice A0 p.T.length c0) rfl
                    have g1 := hd.out.blk.cell 1 (u := .slice AF p.F.length cF) rfl
                    have g2 := hd.out.blk.cell 2 (u := .slice AN n cN) rfl
                    have g3 := hd.out.blk.cell 3 (u := .int .i64 q.L) rfl
                    have g4 := hd.out.blk.cell 4 (u := .int .i64 q.S) rfl
                    have g5 := hd.out.blk.cell 5 (u := .int .i64 q.E) rfl
                    have hd0 := hkk.out.cell 0 (u := .slice none 0 0) rfl
                    have hd1 := hkk.out.cell 1 (u := .slice none 0 0) rfl
                    have hd2 := hkk.out.cell 2 (u := .slice none 0 0) rfl
                    have hd3 := hkk.out.cell 3 (u := .int .i64 0) rfl
                    have hd4 := hkk.out.cell 4 (u := .int .i64 0) rfl
                    have hd5 := hkk.out.cell 5 (u := .int .i64 0) rfl
                    have hf0 := hkk.out.frozen 0
                    have hf1 := hkk.out.frozen 1
                    have hf2 := hkk.out.frozen 2
                    have hf3 := hkk.out.frozen 3
                    have hf4 := hkk.out.frozen 4
                    have hf5 := hkk.out.frozen 5
                    go_wp2
                    refine bodyPost_ret (v := .agg #[.slice A0 p.T.length c0, .slice AF p.F.length cF, .slice AN n cN, .int .i64 q.L, .int .i64 q.S, .int .i64 q.E]) (by simp [results, Tryd.results33, go_sem, hd0, hd1, hd2, hd3, hd4, hd5]) rfl ?_
                    refine ⟨⟨_, _, _, q, rfl, ?_, FQ.out⟩, ?_⟩
                    · exact ((hd.out.own.outP (out_set6 _ _ _ _ _ _ _ _) (.inr (by have := LO.out; omega))).moreP (by simp)).wide (by have := LO.out; omega)
                    · exact hou.out.later (out_set6 _ _ _ _ _ _ _ _) (Nat.le_refl _)
              · have n6 : (M == 6) = false := by simpa using h6
                by_cases h7 : M = 7
                · subst h7
                  have D6 := Lib.hid (D3.out.alloc (.cells #[.int .i64 62, .int .i64 63, .int .i64 64] 2))
                  have K6 := Lib.hid (K3.out.alloc (.cells #[.int .i64 62, .int .i64 63, .int .i64 64] 2))
                  have A6 := Lib.hid (A3.out.alloc (.cells #[.int .i64 62, .int .i64 63, .int .i64 64] 2))
                  have pr := (by decide : ∀ y ∈ ([62, 63, 64] : List Int), 62 ≤ y ∧ y ≤ 64) _ (pick_in [62, 63, 64] zs (at1 + 1) 3 rfl (by omega))
                  have gne : w3.heap.size ≠ g := by have := D3.out.src.lt; omega
                  go_wp2_with fail
                  refine (l1Pick_any g w3.heap.size 3 2 [62, 63, 64] zs (at1 + 1) _ (Blk.new w3 _ _) gne rfl (by omega) (by omega) D6.out.src HB.out hl (by omega)).mono ?_
                  rintro e w7 ⟨rfl, hs7, o7⟩
                  obtain ⟨N, hN⟩ : ∃ N : Nat, Hid (nth [62, 63, 64] (nxt zs (at1 + 1) ((3 : Nat) : Int)).toNat = (N : Int)) := ⟨(nth [62, 63, 64] (nxt zs (at1 + 1) ((3 : Nat) : Int)).toNat).toNat, Lib.hid (by show _ = _; omega)⟩
                  rw [hN.out] at pr ⊢
                  have n64 : N ≤ 64 := by omega
                  have D7 := Lib.hid (D6.out.call o7 hs7)
                  have K7 := Lib.hid (K6.out.out o7 (.inr (by omega)))
                  have A7 := Lib.hid (A6.out.trans o7)
                  clear hs7 o7 gne D6 K6 A6 pr
                  go_wp2
                  go_loopw [5] (fun nv wr => ∃ (k : Nat) (q : Prt) (v0 v1 v2 : Value), k ≤ N ∧ nv = .int .i64 ((N : Int) - k) ∧ Hid (Few q (40 + k)) ∧ Hid (DQ wr g gp wa.heap.size zs (at1 + 1 + 1) v0 v1 v2 q) ∧ Hid (Blk wr w.heap.size 26 #[.slice none 0 0, .slice none 0 0, .slice none 0 0, .int .i64 0, .int .i64 0, .int .i64 0]) ∧ Hid (Out g (g + 1) w wr)) (fun nv _ => (intOf nv).toNat)
                  case atStart => exact ⟨0, p, _, _, _, by omega, by simp, FW, D7, K7, A7⟩
                  case round =>
                    clear D7 K7 A7 D3 K3 A3
                    obtain ⟨k, q, v0, v1, v2, hk, rfl, FQ, hd, hkk, hou⟩ := hrel
                    obtain ⟨B0, d0, rfl⟩ := hd.out.own.o0.form
                    obtain ⟨BF, dF, rfl⟩ := hd.out.own.o1.form
                    obtain ⟨BN, dN, rfl⟩ := hd.out.own.o2.form
                    obtain ⟨a, ha⟩ : ∃ a, Hid (q.T.length = a) := ⟨_, Lib.hid rfl⟩
                    obtain ⟨b, hbb⟩ : ∃ b, Hid (q.F.length = b) := ⟨_, Lib.hid rfl⟩
                    obtain ⟨c, hcc⟩ : ∃ c, Hid (q.N.length = c) := ⟨_, Lib.hid rfl⟩
                    rw [ha.out, hbb.out, hcc.out] at hd
                    by_cases hlt : k < N
                    · have c0 : (0 : Int) < (N : Int) - k := by omega
                      have lnx : a ≤ 200 := by have := FQ.out.lt; have := ha.out; omega
                      have fx := hd.out.blk.cell 0 (u := (.slice B0 a d0)) rfl
                      have Dx8 := Lib.hid (hd.out.alloc (.cells #[.int .i64 40] 2))
                      have Kx8 := Lib.hid (hkk.out.alloc (.cells #[.int .i64 40] 2))
                      have Ax8 := Lib.hid (hou.out.alloc (.cells #[.int .i64 40] 2))
                      have Rx8 := Lib.hid (show Rd ((wr).alloc (.cells #[.int .i64 40] 2)) (wr.heap.size + 1) (some ⟨wr.heap.size, 0, none⟩) (nums .i64 [40]) from rd_base (show (wr).heap.size = wr.heap.size by first | rfl | simp) (Rd.lit (wr) #[.int .i64 40] 2))
                      have Ox8 := Lib.hid (show ((wr).alloc (.cells #[.int .i64 40] 2)).ownsRow wa.heap.size 2 1 (.slice B0 a d0) a (nums .i64 q.T) from by have := Dx8.out.own.o0.1; rw [ha.out] at this; exact this)
                      have gx8 : wa.heap.size ≤ ((wr).alloc (.cells #[.int .i64 40] 2)).heap.size := by have := Kx8.out.lt; have := LO.out; omega
                      have hx := Dx8.out.blk.cell 0 (u := (.slice B0 a d0)) rfl
                      go_wp2_with (first
                        | (at_builtin; go_loud (refine wpList_app rfl _ _ _ rfl wa.heap.size Tryd.underlying24 hi hz0 hz1 hz2 rfl (by omega) rfl Ox8.out rfl Rx8.out (m := 1) rfl (nums_one .i64 [40]) (by omega) (by omega) gx8 ?_); intro v' wx o9 g9 a9
                           obtain ⟨Ax9, cx9, rfl⟩ := own_form o9
                           have b9 : Blk wx gp 26 _ := (g9.block gp Dx8.out.blk.lt (fun e => Dx8.out.b0 e.symm)).trans Dx8.out.blk
                           have kx := b9.cell 0 (u := (.slice B0 a d0)) rfl
                           have kfx := b9.frozen 0
                           obtain ⟨qx, hqx⟩ : ∃ r : Prt, r = { q with T := q.T ++ [40] } := ⟨_, rfl⟩
                           have Dx := Lib.hid (DQ.app0 (news := [40]) (m := 1) Dx8.out (by rw [ha.out]; exact o9) rfl g9 a9)
                           have Fx := Lib.hid (show Few { q with T := q.T ++ [40] } (40 + k + 1) from few_ap0 FQ.out [40] (by intro z hz; have := (by decide : ∀ y ∈ ([40] : List Int), -1 ≤ y ∧ y ≤ 1114112) z hz; exact this))
                           rw [← hqx] at Dx Fx
                           have hnx0 := Lib.hid (show qx.T.length = (a + 1) from by rw [hqx]; show (q.T ++ [40]).length = (a + 1); rw [List.length_append, ha.out]; rfl)
                           have hnx1 := Lib.hid (show qx.F.length = b from by rw [hqx]; exact hbb.out)
                           have hnx2 := Lib.hid (show qx.N.length = c from by rw [hqx]; exact hcc.out)
                           have Kx := Lib.hid (show Blk (wx.setCell ⟨gp, 0, none⟩ (.slice Ax9 (a + 1) cx9)) w.heap.size 26 _ from (heap_setCell_other wx _ _ _ (by have := GP.out; show w.heap.size ≠ gp; omega)).trans ((g9.block w.heap.size Kx8.out.lt (by intro e; have := (Dx8.out.own.o0.lt _ e.symm).1; have := LO.out; omega)).trans Kx8.out))
                           have Ax := Lib.hid ((Ax8.out.later (Out.of_grown (lo := wa.heap.size) (hi := ((wr).alloc (.cells #[.int .i64 40] 2)).heap.size) g9 (fun b hb => Dx8.out.own.o0.lt b hb)) (by have := LO.out; omega)).set ⟨gp, 0, none⟩ (.slice Ax9 (a + 1) cx9) (by show w.heap.size ≤ gp; have := GP.out; omega))
                           clear o9 g9 a9 b9 fx hx hqx Rx8 Ox8 Kx8 Ax8
                           have lny : b ≤ 200 := by have := Fx.out.lf; have := hnx1.out; omega
                           have fy := Dx.out.blk.cell 1 (u := (.slice BF b dF)) rfl
                           have Dy8 := Lib.hid (Dx.out.alloc (.cells #[.int .i64 13] 2))
                           have Ky8 := Lib.hid (Kx.out.alloc (.cells #[.int .i64 13] 2))
                           have Ay8 := Lib.hid (Ax.out.alloc (.cells #[.int .i64 13] 2))
                           have Ry8 := Lib.hid (show Rd ((wx.setCell ⟨gp, 0, none⟩ (.slice Ax9 (a + 1) cx9)).alloc (.cells #[.int .i64 13] 2)) (wx.heap.size + 1) (some ⟨wx.heap.size, 0, none⟩) (nums .i64 [13]) from rd_base (show (wx.setCell ⟨gp, 0, none⟩ (.slice Ax9 (a + 1) cx9)).heap.size = wx.heap.size by first | rfl | simp) (Rd.lit (wx.setCell ⟨gp, 0, none⟩ (.slice Ax9 (a + 1) cx9)) #[.int .i64 13] 2))
                           have Oy8 := Lib.hid (show ((wx.setCell ⟨gp, 0, none⟩ (.slice Ax9 (a + 1) cx9)).alloc (.cells #[.int .i64 13] 2)).ownsRow wa.heap.size 2 1 (.slice BF b dF) b (nums .i64 qx.F) from by have := Dy8.out.own.o1.1; rw [hnx1.out] at this; exact this)
                           have gy8 : wa.heap.size ≤ ((wx.setCell ⟨gp, 0, none⟩ (.slice Ax9 (a + 1) cx9)).alloc (.cells #[.int .i64 13] 2)).heap.size := by have := Ky8.out.lt; have := LO.out; omega
                           have hy := Dy8.out.blk.cell 1 (u := (.slice BF b dF)) rfl)
                        | (at_builtin; go_loud (refine wpList_app rfl _ _ _ rfl wa.heap.size Tryd.underlying24 hi hz0 hz1 hz2 rfl (by omega) rfl Oy8.out rfl Ry8.out (m := 1) rfl (nums_one .i64 [13]) (by omega) (by omega) gy8 ?_); intro v' wy o9 g9 a9
                           obtain ⟨Ay9, cy9, rfl⟩ := own_form o9
                           have b9 : Blk wy gp 26 _ := (g9.block gp Dy8.out.blk.lt (fun e => Dy8.out.b1 e.symm)).trans Dy8.out.blk
                           have ky := b9.cell 1 (u := (.slice BF b dF)) rfl
                           have kfy := b9.frozen 1
                           obtain ⟨qy, hqy⟩ : ∃ r : Prt, r = { qx with F := qx.F ++ [13] } := ⟨_, rfl⟩
                           have Dy := Lib.hid (DQ.app1 (news := [13]) (m := 1) Dy8.out (by rw [hnx1.out]; exact o9) rfl g9 a9)
                           have Fy := Lib.hid (show Few { qx with F := qx.F ++ [13] } (40 + k + 1 + 1) from few_ap1 Fx.out [13] (by intro z hz; have := (by decide : ∀ y ∈ ([13] : List Int), -1 ≤ y ∧ y ≤ 1114112) z hz; exact this))
                           rw [← hqy] at Dy Fy
                           have hny0 := Lib.hid (show qy.T.length = (a + 1) from by rw [hqy]; exact hnx0.out)
                           have hny1 := Lib.hid (show qy.F.length = (b + 1) from by rw [hqy]; show (qx.F ++ [13]).length = (b + 1); rw [List.length_append, hnx1.out]; rfl)
                           have hny2 := Lib.hid (show qy.N.length = c from by rw [hqy]; exact hnx2.out)
                           have Ky := Lib.hid (show Blk (wy.setCell ⟨gp, 1, none⟩ (.slice Ay9 (b + 1) cy9)) w.heap.size 26 _ from (heap_setCell_other wy _ _ _ (by have := GP.out; show w.heap.size ≠ gp; omega)).trans ((g9.block w.heap.size Ky8.out.lt (by intro e; have := (Dy8.out.own.o1.lt _ e.symm).1; have := LO.out; omega)).trans Ky8.out))
                           have Ay := Lib.hid ((Ay8.out.later (Out.of_grown (lo := wa.heap.size) (hi := ((wx.setCell ⟨gp, 0, none⟩ (.slice Ax9 (a + 1) cx9)).alloc (.cells #[.int .i64 13] 2)).heap.size) g9 (fun b hb => Dy8.out.own.o1.lt b hb)) (by have := LO.out; omega)).set ⟨gp, 1, none⟩ (.slice Ay9 (b + 1) cy9) (by show w.heap.size ≤ gp; have := GP.out; omega))
                           clear o9 g9 a9 b9 fy hy hqy Ry8 Oy8 Ky8 Ay8
                           have lnz : c ≤ 200 := by have := Fy.out.ln; have := hny2.out; omega
                           have fz := Dy.out.blk.cell 2 (u := (.slice BN c dN)) rfl
                           have Dz8 := Lib.hid (Dy.out.alloc (.cells #[.int .i64 13] 2))
                           have Kz8 := Lib.hid (Ky.out.alloc (.cells #[.int .i64 13] 2))
                           have Az8 := Lib.hid (Ay.out.alloc (.cells #[.int .i64 13] 2))
                           have Rz8 := Lib.hid (show Rd ((wy.setCell ⟨gp, 1, none⟩ (.slice Ay9 (b + 1) cy9)).alloc (.cells #[.int .i64 13] 2)) (wy.heap.size + 1) (some ⟨wy.heap.size, 0, none⟩) (nums .i64 [13]) from rd_base (show (wy.setCell ⟨gp, 1, none⟩ (.slice Ay9 (b + 1) cy9)).heap.size = wy.heap.size by first | rfl | simp) (Rd.lit (wy.setCell ⟨gp, 1, none⟩ (.slice Ay9 (b + 1) cy9)) #[.int .i64 13] 2))
                           have Oz8 := Lib.hid (show ((wy.setCell ⟨gp, 1, none⟩ (.slice Ay9 (b + 1) cy9)).alloc (.cells #[.int .i64 13] 2)).ownsRow wa.heap.size 2 1 (.slice BN c dN) c (nums .i64 qy.N) from by have := Dz8.out.own.o2.1; rw [hny2.out] at this; exact this)
                           have gz8 : wa.heap.size ≤ ((wy.setCell ⟨gp, 1, none⟩ (.slice Ay9 (b + 1) cy9)).alloc (.cells #[.int .i64 13] 2)).heap.size := by have := Kz8.out.lt; have := LO.out; omega
                           have hz := Dz8.out.blk.cell 2 (u := (.slice BN c dN)) rfl)
                        | (at_builtin; go_loud (refine wpList_app rfl _ _ _ rfl wa.heap.size Tryd.underlying24 hi hz0 hz1 hz2 rfl (by omega) rfl Oz8.out rfl Rz8.out (m := 1) rfl (nums_one .i64 [13]) (by omega) (by omega) gz8 ?_); intro v' wz o9 g9 a9
                           obtain ⟨Az9, cz9, rfl⟩ := own_form o9
                           have b9 : Blk wz gp 26 _ := (g9.block gp Dz8.out.blk.lt (fun e => Dz8.out.b2 e.symm)).trans Dz8.out.blk
                           have kz := b9.cell 2 (u := (.slice BN c dN)) rfl
                           have kfz := b9.frozen 2
                           obtain ⟨qz, hqz⟩ : ∃ r : Prt, r = { qy with N := qy.N ++ [13] } := ⟨_, rfl⟩
                           have Dz := Lib.hid (DQ.app2 (news := [13]) (m := 1) Dz8.out (by rw [hny2.out]; exact o9) rfl g9 a9)
                           have Fz := Lib.hid (show Few { qy with N := qy.N ++ [13] } (40 + k + 1 + 1 + 1) from few_ap2 Fy.out [13] (by intro z hz; have := (by decide : ∀ y ∈ ([13] : List Int), -1 ≤ y ∧ y ≤ 1114112) z hz; exact this))
                           rw [← hqz] at Dz Fz
                           have hnz0 := Lib.hid (show qz.T.length = (a + 1) from by rw [hqz]; exact hny0.out)
                           have hnz1 := Lib.hid (show qz.F.length = (b + 1) from by rw [hqz]; exact hny1.out)
                           have hnz2 := Lib.hid (show qz.N.length = (c + 1) from by rw [hqz]; show (qy.N ++ [13]).length = (c + 1); rw [List.length_append, hny2.out]; rfl)
                           have Kz := Lib.hid (show Blk (wz.setCell ⟨gp, 2, none⟩ (.slice Az9 (c + 1) cz9)) w.heap.size 26 _ from (heap_setCell_other wz _ _ _ (by have := GP.out; show w.heap.size ≠ gp; omega)).trans ((g9.block w.heap.size Kz8.out.lt (by intro e; have := (Dz8.out.own.o2.lt _ e.symm).1; have := LO.out; omega)).trans Kz8.out))
                           have Az := Lib.hid ((Az8.out.later (Out.of_grown (lo := wa.heap.size) (hi := ((wy.setCell ⟨gp, 1, none⟩ (.slice Ay9 (b + 1) cy9)).alloc (.cells #[.int .i64 13] 2)).heap.size) g9 (fun b hb => Dz8.out.own.o2.lt b hb)) (by have := LO.out; omega)).set ⟨gp, 2, none⟩ (.slice Az9 (c + 1) cz9) (by show w.heap.size ≤ gp; have := GP.out; omega))
                           clear o9 g9 a9 b9 fz hz hqz Rz8 Oz8 Kz8 Az8))
                      go_roundw
                      case rel => exact ⟨k + 1, qz, _, _, _, by omega, by go_num, Lib.hid (few_up2 Fz.out FQ.out hnx0.out hnx1.out hnx2.out hny0.out hny1.out hny2.out hnz0.out hnz1.out hnz2.out ha.out hbb.out hcc.out), Dz, Kz, Az⟩
                      case measure => first | omega | (simp [intOf]; omega)
                    · have c0 : ¬ (0 : Int) < (N : Int) - k := by omega
                      have lnx : a ≤ 200 := by have := FQ.out.lt; have := ha.out; omega
                      have fx := hd.out.blk.cell 0 (u := (.slice B0 a d0)) rfl
                      have Dx8 := Lib.hid (hd.out.alloc (.cells #[.int .i64 97, .int .i64 41] 2))
                      have Kx8 := Lib.hid (hkk.out.alloc (.cells #[.int .i64 97, .int .i64 41] 2))
                      have Ax8 := Lib.hid (hou.out.alloc (.cells #[.int .i64 97, .int .i64 41] 2))
                      have Rx8 := Lib.hid (show Rd ((wr).alloc (.cells #[.int .i64 97, .int .i64 41] 2)) (wr.heap.size + 1) (some ⟨wr.heap.size, 0, none⟩) (nums .i64 [97, 41]) from rd_base (show (wr).heap.size = wr.heap.size by first | rfl | simp) (Rd.lit (wr) #[.int .i64 97, .int .i64 41] 2))
                      have Ox8 := Lib.hid (show ((wr).alloc (.cells #[.int .i64 97, .int .i64 41] 2)).ownsRow wa.heap.size 2 1 (.slice B0 a d0) a (nums .i64 q.T) from by have := Dx8.out.own.o0.1; rw [ha.out] at this; exact this)
                      have gx8 : wa.heap.size ≤ ((wr).alloc (.cells #[.int .i64 97, .int .i64 41] 2)).heap.size := by have := Kx8.out.lt; have := LO.out; omega
                      have hx := Dx8.out.blk.cell 0 (u := (.slice B0 a d0)) rfl
                      go_wp2_with (first
                        | (at_builtin; go_loud (refine wpList_app rfl _ _ _ rfl wa.heap.size Tryd.underlying24 hi hz0 hz1 hz2 rfl (by omega) rfl Ox8.out rfl Rx8.out (m := 2) rfl (nums_one .i64 [97, 41]) (by omega) (by omega) gx8 ?_); intro v' wx o9 g9 a9
                           obtain ⟨Ax9, cx9, rfl⟩ := own_form o9
                           have b9 : Blk wx gp 26 _ := (g9.block gp Dx8.out.blk.lt (fun e => Dx8.out.b0 e.symm)).trans Dx8.out.blk
                           have kx := b9.cell 0 (u := (.slice B0 a d0)) rfl
                           have kfx := b9.frozen 0
                           obtain ⟨qx, hqx⟩ : ∃ r : Prt, r = { q with T := q.T ++ [97, 41] } := ⟨_, rfl⟩
                           have Dx := Lib.hid (DQ.app0 (news := [97, 41]) (m := 2) Dx8.out (by rw [ha.out]; exact o9) rfl g9 a9)
                           have Fx := Lib.hid (show Few { q with T := q.T ++ [97, 41] } (40 + k + 2) from few_ap0 FQ.out [97, 41] (by intro z hz; have := (by decide : ∀ y ∈ ([97, 41] : List Int), -1 ≤ y ∧ y ≤ 1114112) z hz; exact this))
                           rw [← hqx] at Dx Fx
                           have hnx0 := Lib.hid (show qx.T.length = (a + 2) from by rw [hqx]; show (q.T ++ [97, 41]).length = (a + 2); rw [List.length_append, ha.out]; rfl)
                           have hnx1 := Lib.hid (show qx.F.length = b from by rw [hqx]; exact hbb.out)
                           have hnx2 := Lib.hid (show qx.N.length = c from by rw [hqx]; exact hcc.out)
                           have Kx := Lib.hid (show Blk (wx.setCell ⟨gp, 0, none⟩ (.slice Ax9 (a + 2) cx9)) w.heap.size 26 _ from (heap_setCell_other wx _ _ _ (by have := GP.out; show w.heap.size ≠ gp; omega)).trans ((g9.block w.heap.size Kx8.out.lt (by intro e; have := (Dx8.out.own.o0.lt _ e.symm).1; have := LO.out; omega)).trans Kx8.out))
                           have Ax := Lib.hid ((Ax8.out.later (Out.of_grown (lo := wa.heap.size) (hi := ((wr).alloc (.cells #[.int .i64 97, .int .i64 41] 2)).heap.size) g9 (fun b hb => Dx8.out.own.o0.lt b hb)) (by have := LO.out; omega)).set ⟨gp, 0, none⟩ (.slice Ax9 (a + 2) cx9) (by show w.heap.size ≤ gp; have := GP.out; omega))
                           clear o9 g9 a9 b9 fx hx hqx Rx8 Ox8 Kx8 Ax8
                           have lny : b ≤ 200 := by have := Fx.out.lf; have := hnx1.out; omega
                           have fy := Dx.out.blk.cell 1 (u := (.slice BF b dF)) rfl
                           have Dy8 := Lib.hid (Dx.out.alloc (.cells #[.int .i64 0, .int .i64 13] 2))
                           have Ky8 := Lib.hid (Kx.out.alloc (.cells #[.int .i64 0, .int .i64 13] 2))
                           have Ay8 := Lib.hid (Ax.out.alloc (.cells #[.int .i64 0, .int .i64 13] 2))
                           have Ry8 := Lib.hid (show Rd ((wx.setCell ⟨gp, 0, none⟩ (.slice Ax9 (a + 2) cx9)).alloc (.cells #[.int .i64 0, .int .i64 13] 2)) (wx.heap.size + 1) (some ⟨wx.heap.size, 0, none⟩) (nums .i64 [0, 13]) from rd_base (show (wx.setCell ⟨gp, 0, none⟩ (.slice Ax9 (a + 2) cx9)).heap.size = wx.heap.size by first | rfl | simp) (Rd.lit (wx.setCell ⟨gp, 0, none⟩ (.slice Ax9 (a + 2) cx9)) #[.int .i64 0, .int .i64 13] 2))
                           have Oy8 := Lib.hid (show ((wx.setCell ⟨gp, 0, none⟩ (.slice Ax9 (a + 2) cx9)).alloc (.cells #[.int .i64 0, .int .i64 13] 2)).ownsRow wa.heap.size 2 1 (.slice BF b dF) b (nums .i64 qx.F) from by have := Dy8.out.own.o1.1; rw [hnx1.out] at this; exact this)
                           have gy8 : wa.heap.size ≤ ((wx.setCell ⟨gp, 0, none⟩ (.slice Ax9 (a + 2) cx9)).alloc (.cells #[.int .i64 0, .int .i64 13] 2)).heap.size := by have := Ky8.out.lt; have := LO.out; omega
                           have hy := Dy8.out.blk.cell 1 (u := (.slice BF b dF)) rfl)
                        | (at_builtin; go_loud (refine wpList_app rfl _ _ _ rfl wa.heap.size Tryd.underlying24 hi hz0 hz1 hz2 rfl (by omega) rfl Oy8.out rfl Ry8.out (m := 2) rfl (nums_one .i64 [0, 13]) (by omega) (by omega) gy8 ?_); intro v' wy o9 g9 a9
                           obtain ⟨Ay9, cy9, rfl⟩ := own_form o9
                           have b9 : Blk wy gp 26 _ := (g9.block gp Dy8.out.blk.lt (fun e => Dy8.out.b1 e.symm)).trans Dy8.out.blk
                           have ky := b9.cell 1 (u := (.slice BF b dF)) rfl
                           have kfy := b9.frozen 1
                           obtain ⟨qy, hqy⟩ : ∃ r : Prt, r = { qx with F := qx.F ++ [0, 13] } := ⟨_, rfl⟩
                           have Dy := Lib.hid (DQ.app1 (news := [0, 13]) (m := 2) Dy8.out (by rw [hnx1.out]; exact o9) rfl g9 a9)
                           have Fy := Lib.hid (show Few { qx with F := qx.F ++ [0, 13] } (40 + k + 2 + 2) from few_ap1 Fx.out [0, 13] (by intro z hz; have := (by decide : ∀ y ∈ ([0, 13] : List Int), -1 ≤ y ∧ y ≤ 1114112) z hz; exact this))
                           rw [← hqy] at Dy Fy
                           have hny0 := Lib.hid (show qy.T.length = (a + 2) from by rw [hqy]; exact hnx0.out)
                           have hny1 := Lib.hid (show qy.F.length = (b + 2) from by rw [hqy]; show (qx.F ++ [0, 13]).length = (b + 2); rw [List.length_append, hnx1.out]; rfl)
                           have hny2 := Lib.hid (show qy.N.length = c from by rw [hqy]; exact hnx2.out)
                           have Ky := Lib.hid (show Blk (wy.setCell ⟨gp, 1, none⟩ (.slice Ay9 (b + 2) cy9)) w.heap.size 26 _ from (heap_setCell_other wy _ _ _ (by have := GP.out; show w.heap.size ≠ gp; omega)).trans ((g9.block w.heap.size Ky8.out.lt (by intro e; have := (Dy8.out.own.o1.lt _ e.symm).1; have := LO.out; omega)).trans Ky8.out))
                           have Ay := Lib.hid ((Ay8.out.later (Out.of_grown (lo := wa.heap.size) (hi := ((wx.setCell ⟨gp, 0, none⟩ (.slice Ax9 (a + 2) cx9)).alloc (.cells #[.int .i64 0, .int .i64 13] 2)).heap.size) g9 (fun b hb => Dy8.out.own.o1.lt b hb)) (by have := LO.out; omega)).set ⟨gp, 1, none⟩ (.slice Ay9 (b + 2) cy9) (by show w.heap.size ≤ gp; have := GP.out; omega))
                           clear o9 g9 a9 b9 fy hy hqy Ry8 Oy8 Ky8 Ay8
                           have lnz : c ≤ 200 := by have := Fy.out.ln; have := hny2.out; omega
                           have fz := Dy.out.blk.cell 2 (u := (.slice BN c dN)) rfl
                           have Dz8 := Lib.hid (Dy.out.alloc (.cells #[.int .i64 0, .int .i64 13] 2))
                           have Kz8 := Lib.hid (Ky.out.alloc (.cells #[.int .i64 0, .int .i64 13] 2))
                           have Az8 := Lib.hid (Ay.out.alloc (.cells #[.int .i64 0, .int .i64 13] 2))
                           have Rz8 := Lib.hid (show Rd ((wy.setCell ⟨gp, 1, none⟩ (.slice Ay9 (b + 2) cy9)).alloc (.cells #[.int .i64 0, .int .i64 13] 2)) (wy.heap.size + 1) (some ⟨wy.heap.size, 0, none⟩) (nums .i64 [0, 13]) from rd_base (show (wy.setCell ⟨gp, 1, none⟩ (.slice Ay9 (b + 2) cy9)).heap.size = wy.heap.size by first | rfl | simp) (Rd.lit (wy.setCell ⟨gp, 1, none⟩ (.slice Ay9 (b + 2) cy9)) #[.int .i64 0, .int .i64 13] 2))
                           have Oz8 := Lib.hid (show ((wy.setCell ⟨gp, 1, none⟩ (.slice Ay9 (b + 2) cy9)).alloc (.cells #[.int .i64 0, .int .i64 13] 2)).ownsRow wa.heap.size 2 1 (.slice BN c dN) c (nums .i64 qy.N) from by have := Dz8.out.own.o2.1; rw [hny2.out] at this; exact this)
                           have gz8 : wa.heap.size ≤ ((wy.setCell ⟨gp, 1, none⟩ (.slice Ay9 (b + 2) cy9)).alloc (.cells #[.int .i64 0, .int .i64 13] 2)).heap.size := by have := Kz8.out.lt; have := LO.out; omega
                           have hz := Dz8.out.blk.cell 2 (u := (.slice BN c dN)) rfl)
                        | (at_builtin; go_loud (refine wpList_app rfl _ _ _ rfl wa.heap.size Tryd.underlying24 hi hz0 hz1 hz2 rfl (by omega) rfl Oz8.out rfl Rz8.out (m := 2) rfl (nums_one .i64 [0, 13]) (by omega) (by omega) gz8 ?_); intro v' wz o9 g9 a9
                           obtain ⟨Az9, cz9, rfl⟩ := own_form o9
                           have b9 : Blk wz gp 26 _ := (g9.block gp Dz8.out.blk.lt (fun e => Dz8.out.b2 e.symm)).trans Dz8.out.blk
                           have kz := b9.cell 2 (u := (.slice BN c dN)) rfl
                           have kfz := b9.frozen 2
                           obtain ⟨qz, hqz⟩ : ∃ r : Prt, r = { qy with N := qy.N ++ [0, 13] } := ⟨_, rfl⟩
                           have Dz := Lib.hid (DQ.app2 (news := [0, 13]) (m := 2) Dz8.out (by rw [hny2.out]; exact o9) rfl g9 a9)
                           have Fz := Lib.hid (show Few { qy with N := qy.N ++ [0, 13] } (40 + k + 2 + 2 + 2) from few_ap2 Fy.out [0, 13] (by intro z hz; have := (by decide : ∀ y ∈ ([0, 13] : List Int), -1 ≤ y ∧ y ≤ 1114112) z hz; exact this))
                           rw [← hqz] at Dz Fz
                           have hnz0 := Lib.hid (show qz.T.length = (a + 2) from by rw [hqz]; exact hny0.out)
                           have hnz1 := Lib.hid (show qz.F.length = (b + 2) from by rw [hqz]; exact hny1.out)
                           have hnz2 := Lib.hid (show qz.N.length = (c + 2) from by rw [hqz]; show (qy.N ++ [0, 13]).length = (c + 2); rw [List.length_append, hny2.out]; rfl)
                           have Kz := Lib.hid (show Blk (wz.setCell ⟨gp, 2, none⟩ (.slice Az9 (c + 2) cz9)) w.heap.size 26 _ from (heap_setCell_other wz _ _ _ (by have := GP.out; show w.heap.size ≠ gp; omega)).trans ((g9.block w.heap.size Kz8.out.lt (by intro e; have := (Dz8.out.own.o2.lt _ e.symm).1; have := LO.out; omega)).trans Kz8.out))
                           have Az := Lib.hid ((Az8.out.later (Out.of_grown (lo := wa.heap.size) (hi := ((wy.setCell ⟨gp, 1, none⟩ (.slice Ay9 (b + 2) cy9)).alloc (.cells #[.int .i64 0, .int .i64 13] 2)).heap.size) g9 (fun b hb => Dz8.out.own.o2.lt b hb)) (by have := LO.out; omega)).set ⟨gp, 2, none⟩ (.slice Az9 (c + 2) cz9) (by show w.heap.size ≤ gp; have := GP.out; omega))
                           clear o9 g9 a9 b9 fz hz hqz Rz8 Oz8 Kz8 Az8
                           have g0 := Dz.out.blk.cell 0 (u := (.slice Ax9 (a + 2) cx9)) rfl
                           have g1 := Dz.out.blk.cell 1 (u := (.slice Ay9 (b + 2) cy9)) rfl
                           have g2 := Dz.out.blk.cell 2 (u := (.slice Az9 (c + 2) cz9)) rfl
                           have g3 := Dz.out.blk.cell 3 (u := .int .i64 qz.L) rfl
                           have g4 := Dz.out.blk.cell 4 (u := .int .i64 qz.S) rfl
                           have g5 := Dz.out.blk.cell 5 (u := .int .i64 qz.E) rfl
                           have hd0 := Kz.out.cell 0 (u := .slice none 0 0) rfl
                           have hd1 := Kz.out.cell 1 (u := .slice none 0 0) rfl
                           have hd2 := Kz.out.cell 2 (u := .slice none 0 0) rfl
                           have hd3 := Kz.out.cell 3 (u := .int .i64 0) rfl
                           have hd4 := Kz.out.cell 4 (u := .int .i64 0) rfl
                           have hd5 := Kz.out.cell 5 (u := .int .i64 0) rfl
                           have hf0 := Kz.out.frozen 0
                           have hf1 := Kz.out.frozen 1
                           have hf2 := Kz.out.frozen 2
                           have hf3 := Kz.out.frozen 3
                           have hf4 := Kz.out.frozen 4
                           have hf5 := Kz.out.frozen 5))
                      have FE := Lib.hid (few_up Fz.out (n := 200) (by omega))
                      refine bodyPost_ret (v := .agg #[(.slice Ax9 (a + 2) cx9), (.slice Ay9 (b + 2) cy9), (.slice Az9 (c + 2) cz9), .int .i64 qz.L, .int .i64 qz.S, .int .i64 qz.E]) (by simp [results, Tryd.results33, go_sem, hd0, hd1, hd2, hd3, hd4, hd5]) rfl ?_
                      refine ⟨⟨_, _, _, qz, rfl, ?_, FE.out⟩, ?_⟩
                      · exact ((Dz.out.own.outP (out_set6 _ _ _ _ _ _ _ _) (.inr (by have := LO.out; omega))).moreP (by simp)).wide (by have := LO.out; omega)
                      · exact Az.out.later (out_set6 _ _ _ _ _ _ _ _) (Nat.le_refl _)
                · have n7 : (M == 7) = false := by simpa using h7
                  have FQ := Lib.hid (few_up FW.out (n := 200) (by omega))
                  have g0 := D3.out.blk.cell 0 (u := .slice A0 p.T.length c0) rfl
                  have g1 := D3.out.blk.cell 1 (u := .slice AF p.F.length cF) rfl
                  have g2 := D3.out.blk.cell 2 (u := .slice AN p.N.length cN) rfl
                  have g3 := D3.out.blk.cell 3 (u := .int .i64 p.L) rfl
                  have g4 := D3.out.blk.cell 4 (u := .int .i64 p.S) rfl
                  have g5 := D3.out.blk.cell 5 (u := .int .i64 p.E) rfl
                  have hd0 := K3.out.cell 0 (u := .slice none 0 0) rfl
                  have hd1 := K3.out.cell 1 (u := .slice none 0 0) rfl
                  have hd2 := K3.out.cell 2 (u := .slice none 0 0) rfl
                  have hd3 := K3.out.cell 3 (u := .int .i64 0) rfl
                  have hd4 := K3.out.cell 4 (u := .int .i64 0) rfl
                  have hd5 := K3.out.cell 5 (u := .int .i64 0) rfl
                  have hf0 := K3.out.frozen 0
                  have hf1 := K3.out.frozen 1
                  have hf2 := K3.out.frozen 2
                  have hf3 := K3.out.frozen 3
                  have hf4 := K3.out.frozen 4
                  have hf5 := K3.out.frozen 5
                  go_wp2
                  refine bodyPost_ret (v := .agg #[.slice A0 p.T.length c0, .slice AF p.F.length cF, .slice AN p.N.length cN, .int .i64 p.L, .int .i64 p.S, .int .i64 p.E]) (by simp [results, Tryd.results33, go_sem, hd0, hd1, hd2, hd3, hd4, hd5]) rfl ?_
                  refine ⟨⟨_, _, _, p, rfl, ?_, FQ.out⟩, ?_⟩
                  · exact ((D3.out.own.outP (out_set6 _ _ _ _ _ _ _ _) (.inr (by have := LO.out; omega))).moreP (by simp)).wide (by have := LO.out; omega)
                  · exact A3.out.later (out_set6 _ _ _ _ _ _ _ _) (Nat.le_refl _)
end Go.Proofs.YtkkojemnbcddfaaDoor

namespace Go.Proofs.YtkkojemnbcddfaaDoor
open Go.RowKit

set_option maxRecDepth 100000 in
set_option maxHeartbeats 1000000 in
theorem drawPairsOf_any (A : Option Addr) (c : Nat) (zs : List Int) (w : World) (hr : Rd w w.heap.size A (nums .u8 zs)) (hb : ∀ b ∈ zs, isByte b) (hl : zs.length < 2000000) :
    Calls Tryd.prog 9 #[.slice A zs.length c] w fun e w' => (∃ v0 v1 v2 p, e = .returned (.agg #[v0, v1, v2, .int .i64 p.L, .int .i64 p.S, .int .i64 p.E]) ∧ OwnPart w' w.heap.size w'.heap.size 2 v0 v1 v2 p ∧ Few p 200) ∧ Below w.heap.size w w' := by
  have K0 := Blk.new w 26 #[.slice none 0 0, .slice none 0 0, .slice none 0 0, .int .i64 0, .int .i64 0, .int .i64 0]
  have b0 := (Below.refl w.heap.size w).alloc (Nat.le_refl _) (.cells #[.slice none 0 0, .slice none 0 0, .slice none 0 0, .int .i64 0, .int .i64 0, .int .i64 0] 26)
  have R0 := (hr.below b0 (Nat.le_refl _)).more b0.size
  have z0 : (w.alloc (.cells #[.slice none 0 0, .slice none 0 0, .slice none 0 0, .int .i64 0, .int .i64 0, .int .i64 0] 26)).heap.size = w.heap.size + 1 := by simp
  have KH := Lib.hid K0
  have BH := Lib.hid b0
  have RH := Lib.hid R0
  have LO := Lib.hid z0
  clear K0 b0 R0 z0 hr
  go_enter Tryd.func9, Tryd.ntmps9
  go_wp2_with fail
  generalize w.alloc (.cells #[.slice none 0 0, .slice none 0 0, .slice none 0 0, .int .i64 0, .int .i64 0, .int .i64 0] 26) = wa at *
  refine (l1Source_any A c zs wa RH.out).mono ?_
  rintro e w1 ⟨rfl, hs1, b1⟩
  have K1 := Lib.hid (KH.out.below b1 KH.out.lt)
  have B1 := Lib.hid (below_on BH.out b1 (by have := LO.out; omega))
  have S1 := Lib.hid hs1
  have s1 := b1.size
  clear hs1 b1
  go_wp2_with fail
  refine (l7Bent_any wa.heap.size zs w1 S1.out hb hl).mono ?_
  rintro e w2 ⟨⟨v0, v1, v2, p, rfl, own2, few2⟩, o2⟩
  have K2 := Lib.hid (K1.out.out o2 (.inl (by have := LO.out; omega)))
  have B2 := Lib.hid (B1.out.trans (o2.to_below (B := w.heap.size) (by have := LO.out; omega) (by have := LO.out; omega)))
  obtain ⟨A0, c0, rfl⟩ := own2.o0.form
  obtain ⟨AF, cF, rfl⟩ := own2.o1.form
  obtain ⟨AN, cN, rfl⟩ := own2.o2.form
  have OW := Lib.hid own2
  have FW := Lib.hid few2
  have hd0 := K2.out.cell 0 (u := .slice none 0 0) rfl
  have hd1 := K2.out.cell 1 (u := .slice none 0 0) rfl
  have hd2 := K2.out.cell 2 (u := .slice none 0 0) rfl
  have hd3 := K2.out.cell 3 (u := .int .i64 0) rfl
  have hd4 := K2.out.cell 4 (u := .int .i64 0) rfl
  have hd5 := K2.out.cell 5 (u := .int .i64 0) rfl
  have hf0 := K2.out.frozen 0
  have hf1 := K2.out.frozen 1
  have hf2 := K2.out.frozen 2
  have hf3 := K2.out.frozen 3
  have hf4 := K2.out.frozen 4
  have hf5 := K2.out.frozen 5
  clear own2 few2 o2
  go_wp2
  refine bodyPost_ret (v := .agg #[.slice A0 p.T.length c0, .slice AF p.F.length cF, .slice AN p.N.length cN, .int .i64 p.L, .int .i64 p.S, .int .i64 p.E]) (by simp [results, Tryd.results9, go_sem, hd0, hd1, hd2, hd3, hd4, hd5]) rfl ?_
  refine ⟨⟨_, _, _, p, rfl, ?_, FW.out⟩, ?_⟩
  · exact ((OW.out.outP (out_set6 _ _ _ _ _ _ _ _) (.inr (by have := LO.out; omega))).moreP (by simp)).wide (by have := LO.out; omega)
  · exact B2.out.trans ((out_set6 w2 w.heap.size _ _ _ _ _ _).to_below (Nat.le_refl _) (by have := LO.out; have := K2.out.lt; omega))
set_option maxRecDepth 100000 in
set_option maxHeartbeats 1000000 in
theorem drawSidesOf_any (A : Option Addr) (c : Nat) (zs : List Int) (w : World) (hr : Rd w w.heap.size A (nums .u8 zs)) (hb : ∀ b ∈ zs, isByte b) (hl : zs.length < 2000000) :
    Calls Tryd.prog 15 #[.slice A zs.length c] w fun e w' => (∃ v0 v1 v2 p, e = .returned (.agg #[v0, v1, v2, .int .i64 p.L, .int .i64 p.S, .int .i64 p.E]) ∧ OwnPart w' w.heap.size w'.heap.size 2 v0 v1 v2 p ∧ Few p 200) ∧ Below w.heap.size w w' := by
  have K0 := Blk.new w 26 #[.slice none 0 0, .slice none 0 0, .slice none 0 0, .int .i64 0, .int .i64 0, .int .i64 0]
  have b0 := (Below.refl w.heap.size w).alloc (Nat.le_refl _) (.cells #[.slice none 0 0, .slice none 0 0, .slice none 0 0, .int .i64 0, .int .i64 0, .int .i64 0] 26)
  have R0 := (hr.below b0 (Nat.le_refl _)).more b0.size
  have z0 : (w.alloc (.cells #[.slice none 0 0, .slice none 0 0, .slice none 0 0, .int .i64 0, .int .i64 0, .int .i64 0] 26)).heap.size = w.heap.size + 1 := by simp
  have KH := Lib.hid K0
  have BH := Lib.hid b0
  have RH := Lib.hid R0
  have LO := Lib.hid z0
  clear K0 b0 R0 z0 hr
  go_enter Tryd.func15, Tryd.ntmps15
  go_wp2_with fail
  generalize w.alloc (.cells #[.slice none 0 0, .slice none 0 0, .slice none 0 0, .int .i64 0, .int .i64 0, .int .i64 0] 26) = wa at *
  refine (l1Source_any A c zs wa RH.out).mono ?_
  rintro e w1 ⟨rfl, hs1, b1⟩
  have K1 := Lib.hid (KH.out.below b1 KH.out.lt)
  have B1 := Lib.hid (below_on BH.out b1 (by have := LO.out; omega))
  have S1 := Lib.hid hs1
  have s1 := b1.size
  clear hs1 b1
  go_wp2_with fail
  refine (l7Bent_any wa.heap.size zs w1 S1.out hb hl).mono ?_
  rintro e w2 ⟨⟨v0, v1, v2, p, rfl, own2, few2⟩, o2⟩
  have K2 := Lib.hid (K1.out.out o2 (.inl (by have := LO.out; omega)))
  have B2 := Lib.hid (B1.out.trans (o2.to_below (B := w.heap.size) (by have := LO.out; omega) (by have := LO.out; omega)))
  obtain ⟨A0, c0, rfl⟩ := own2.o0.form
  obtain ⟨AF, cF, rfl⟩ := own2.o1.form
  obtain ⟨AN, cN, rfl⟩ := own2.o2.form
  have OW := Lib.hid own2
  have FW := Lib.hid few2
  have hd0 := K2.out.cell 0 (u := .slice none 0 0) rfl
  have hd1 := K2.out.cell 1 (u := .slice none 0 0) rfl
  have hd2 := K2.out.cell 2 (u := .slice none 0 0) rfl
  have hd3 := K2.out.cell 3 (u := .int .i64 0) rfl
  have hd4 := K2.out.cell 4 (u := .int .i64 0) rfl
  have hd5 := K2.out.cell 5 (u := .int .i64 0) rfl
  have hf0 := K2.out.frozen 0
  have hf1 := K2.out.frozen 1
  have hf2 := K2.out.frozen 2
  have hf3 := K2.out.frozen 3
  have hf4 := K2.out.frozen 4
  have hf5 := K2.out.frozen 5
  clear own2 few2 o2
  go_wp2
  refine bodyPost_ret (v := .agg #[.slice A0 p.T.length c0, .slice AF p.F.length cF, .slice AN p.N.length cN, .int .i64 p.L, .int .i64 p.S, .int .i64 p.E]) (by simp [results, Tryd.results15, go_sem, hd0, hd1, hd2, hd3, hd4, hd5]) rfl ?_
  refine ⟨⟨_, _, _, p, rfl, ?_, FW.out⟩, ?_⟩
  · exact ((OW.out.outP (out_set6 _ _ _ _ _ _ _ _) (.inr (by have := LO.out; omega))).moreP (by simp)).wide (by have := LO.out; omega)
  · exact B2.out.trans ((out_set6 w2 w.heap.size _ _ _ _ _ _).to_below (Nat.le_refl _) (by have := LO.out; have := K2.out.lt; omega))
end Go.Proofs.YtkkojemnbcddfaaDoor

namespace Go.Proofs.YtkkojemnbcddfaaDoor
open Go.RowKit Go.Maps

set_option maxRecDepth 100000 in
set_option maxHeartbeats 2000000 in
theorem pairsOf_val (v0 v1 v2 : Value) (p : Prt) (w : World) (B : Nat) (h0 : Sees w B .i64 v0 p.T) (h1 : Sees w B .i64 v1 p.F) (h2 : Sees w B .i64 v2 p.N) (hB : B ≤ w.heap.size) (l0 : p.T.length < 1000000000) (l1 : p.F.length < 1000000000) (l2 : p.N.length < 1000000000) (_ : PartWf p) (hP : Pairs w) :
    Calls Tryd.prog 10 #[.agg #[v0, v1, v2, .int .i64 p.L, .int .i64 p.S, .int .i64 p.E]] w fun e w' => (∃ u, e = .returned (.agg #[.int .i64 (partF p), u]) ∧ OwnPr w' w.heap.size w'.heap.size 34 u (pairsV p)) ∧ Below w.heap.size w w' := by
  have pt := PtR.new w 26 B v0 v1 v2 p hB h0 h1 h2
  have b1 := (Below.refl w.heap.size w).alloc (Nat.le_refl _) (.cells #[v0, v1, v2, .int .i64 p.L, .int .i64 p.S, .int .i64 p.E] 26)
  have b2 := b1.alloc (by simp) (.cells #[.int .i64 0, .slice none 0 0] 30)
  have P2 := Lib.hid (pt.below ((Below.refl (w.heap.size + 1) _).alloc (by simp) (.cells #[.int .i64 0, .slice none 0 0] 30)) (Nat.le_refl _))
  have k2 := Blk.new (w.alloc (.cells #[v0, v1, v2, .int .i64 p.L, .int .i64 p.S, .int .i64 p.E] 26)) 30 #[.int .i64 0, .slice none 0 0]
  have sz2 : ((w.alloc (.cells #[v0, v1, v2, .int .i64 p.L, .int .i64 p.S, .int .i64 p.E] 26)).alloc (.cells #[.int .i64 0, .slice none 0 0] 30)).heap.size = w.heap.size + 1 + 1 := by simp
  rw [World.size_alloc] at k2
  have C2 := Lib.hid (partFault_any v0 v1 v2 p _ B (h0.below b2 hB) (h1.below b2 hB) (h2.below b2 hB) (by rw [sz2]; omega) l0 l1 l2)
  have B2 := Lib.hid b2
  have K2 := Lib.hid k2
  have HPW := Lib.hid hP
  clear pt b1 b2 k2 h0 h1 h2 hP
  go_enter Tryd.func10, Tryd.ntmps10
  have f0 := P2.out.blk.cell 0 (u := v0) rfl
  have f1 := P2.out.blk.cell 1 (u := v1) rfl
  have f2 := P2.out.blk.cell 2 (u := v2) rfl
  have f3 := P2.out.blk.cell 3 (u := .int .i64 p.L) rfl
  have f4 := P2.out.blk.cell 4 (u := .int .i64 p.S) rfl
  have f5 := P2.out.blk.cell 5 (u := .int .i64 p.E) rfl
  go_wp2_with fail
  refine C2.out.mono ?_
  rintro e w3 ⟨rfl, b3⟩
  generalize (w.alloc (.cells #[v0, v1, v2, .int .i64 p.L, .int .i64 p.S, .int .i64 p.E] 26)).alloc (.cells #[.int .i64 0, .slice none 0 0] 30) = w2 at *
  have P3 := Lib.hid (P2.out.below b3 (by omega))
  have K3 := Lib.hid (K2.out.below b3 (by omega))
  have B3 := Lib.hid (below_on B2.out b3 (by omega))
  have s3 := b3.size
  clear C2 P2 K2 B2 b3 f0 f1 f2 f3 f4 f5
  by_cases hz : partF p = 0
  · have EV := Lib.hid (show pairsV p = pairsN p.T p.N by unfold pairsV; rw [if_pos hz])
    have OK := Lib.hid (part_ok hz)
    have PZ := Lib.hid (partF_zero hz)
    have CS := Lib.hid (side01 PZ.out.2.1)
    have HZ := Lib.hid hz
    have f0 := P3.out.blk.cell 0 (u := v0) rfl
    have f1 := P3.out.blk.cell 1 (u := v1) rfl
    have f2 := P3.out.blk.cell 2 (u := v2) rfl
    have f3 := P3.out.blk.cell 3 (u := .int .i64 p.L) rfl
    have f4 := P3.out.blk.cell 4 (u := .int .i64 p.S) rfl
    have f5 := P3.out.blk.cell 5 (u := .int .i64 p.E) rfl
    rw [hz]
    clear hz
    go_wp2_with fail
    refine (pairsIn_any v0 v1 v2 p w3 (w.heap.size + 1) P3.out.s0 P3.out.s1 P3.out.s2 (by omega) OK.out.T OK.out.N OK.out.c (HPW.out.on B3.out)).mono ?_
    rintro e w4 ⟨⟨v4, rfl, o4⟩, b4⟩
    obtain ⟨A4, c4, rfl⟩ := o4.form
    have k4 := K3.out.below b4 (by omega)
    have s4 := b4.size
    have B4 := Lib.hid (below_on B3.out b4 (by omega))
    have hd0 := k4.cell 0 (u := .int .i64 0) rfl
    have hd1 := k4.cell 1 (u := .slice none 0 0) rfl
    have hf0 := k4.frozen 0
    have hf1 := k4.frozen 1
    have OW := Lib.hid o4
    obtain ⟨ys, hys⟩ : ∃ ys, Hid (ys = pairsN p.T p.N) := ⟨_, Lib.hid rfl⟩
    rw [← hys.out] at OW EV ⊢
    clear o4 b4 k4 f0 f1 f2 f3 f4 f5
    go_wp2
    refine bodyPost_ret (v := .agg #[.int .i64 0, .slice A4 ys.length c4]) (by simp [results, Tryd.results10, go_sem, hd0, hd1]) rfl ?_
    rw [HZ.out, EV.out]
    refine ⟨⟨_, rfl, ?_⟩, ?_⟩
    · exact ((OW.out.set _ _ (.inl (by simp; omega))).set _ _ (.inl (by simp; omega))).more (by omega) (by simp)
    · exact (B4.out.setCell (by simp) _).setCell (by simp) _
  · have EV := Lib.hid (show pairsV p = [] by unfold pairsV; rw [if_neg hz])
    obtain ⟨q, hq⟩ : ∃ q, Hid (q = partF p) := ⟨_, Lib.hid rfl⟩
    have hne : (q != 0) = true := by rw [hq.out]; simpa using hz
    have hd0 := K3.out.cell 0 (u := .int .i64 0) rfl
    have hd1 := K3.out.cell 1 (u := .slice none 0 0) rfl
    have hf0 := K3.out.frozen 0
    have hf1 := K3.out.frozen 1
    clear hz
    rw [← hq.out]
    go_wp2
    refine bodyPost_ret (v := .agg #[.int .i64 q, .slice none 0 0]) (by simp [results, Tryd.results10, go_sem, hd0, hd1]) rfl ?_
    rw [EV.out, ← hq.out]
    exact ⟨⟨_, rfl, OwnPr.nil _ _ _ _⟩, (B3.out.setCell (by simp) _).setCell (by simp) _⟩
end Go.Proofs.YtkkojemnbcddfaaDoor

namespace Go.Proofs.YtkkojemnbcddfaaDoor
open Go.RowKit
theorem wf_small7 {n : Int} (h : -1000000 ≤ n) (h2 : n ≤ 1000000) : (Lit.int .i64 n).wf = true := by
  have h1 : IntKind.i64.min = -9223372036854775808 := rfl
  have h2 : IntKind.i64.max = 9223372036854775807 := rfl
  simp only [Lit.wf, Bool.and_eq_true, decide_eq_true_eq, h1, h2]
  omega
theorem few_wf {p : Prt} {m : Nat} (h : Few p m) : PartWf p :=
  ⟨h.t.wf, h.f.wf, h.n.wf, wf_small7 (by have := h.l; omega) (by have := h.l; omega), wf_small7 (by have := h.s; omega) (by have := h.s; omega), wf_small7 (by have := h.e; omega) (by have := h.e; omega)⟩
theorem lwBig_any7 (A : Option Addr) (n c : Nat) (w : World) :
    Calls Tryd.prog 8 #[.slice A n c] w fun e w' => e = .returned (.bool (decide (1048576 < n))) ∧ w = w' := by
  go_enter Tryd.func8, Tryd.ntmps8
  go_wp2
  go_ret
  exact ⟨rbool (by simp; omega), rfl⟩
theorem lwNums_see7 (A A' : Option Addr) (n n' c c' : Nat) {xs : List Int} {w w0 w1 : World} {B B' : Nat} (h1 : Sees w0 B .i64 (.slice A n c) xs) (h2 : Sees w1 B' .i64 (.slice A' n' c') xs) (l1 : xs.length < 1000000000) (e0 : w0.heap = w.heap := by rfl) (e1 : w1.heap = w.heap := by rfl) :
    Calls Tryd.prog 20 #[.slice A n c, .slice A' n' c'] w fun e w' => e = .returned (.bool true) ∧ ∃ n, w' = w.drewN n :=
  lwNums_same _ _ xs w B B' (h1.keep fun k _ => by rw [e0]) (h2.keep fun k _ => by rw [e1]) l1
section
variable (v0 v1 v2 : Value) (q : Prt) (f : Int)
theorem cSi (l : List Int) (hf : partF q = f) (hl : sidesV q = l) (lt : q.T.length ≤ 200) (lf : q.F.length ≤ 200) (ln : q.N.length ≤ 200) (WF : PartWf q) (W : World) (h0 : Sees W W.heap.size .i64 v0 q.T) (h1 : Sees W W.heap.size .i64 v1 q.F) (h2 : Sees W W.heap.size .i64 v2 q.N) (hT : Pairs W) :
    Calls Tryd.prog 16 #[.agg #[v0, v1, v2, .int .i64 q.L, .int .i64 q.S, .int .i64 q.E]] W fun e w' => (∃ u, e = .returned (.agg #[.int .i64 f, u]) ∧ Own w' W.heap.size w'.heap.size 2 .i64 u l) ∧ Below W.heap.size W w' := by
  rw [← hf, ← hl]
  exact sidesOf_val v0 v1 v2 q W W.heap.size h0 h1 h2 (Nat.le_refl _) (by omega) (by omega) (by omega) WF hT
theorem cBi (l : List Int) (hf : partF q = f) (hl : bracketsV q = l) (lt : q.T.length ≤ 200) (lf : q.F.length ≤ 200) (ln : q.N.length ≤ 200) (WF : PartWf q) (W : World) (h0 : Sees W W.heap.size .i64 v0 q.T) (h1 : Sees W W.heap.size .i64 v1 q.F) (h2 : Sees W W.heap.size .i64 v2 q.N) (hT : Pairs W) :
    Calls Tryd.prog 17 #[.agg #[v0, v1, v2, .int .i64 q.L, .int .i64 q.S, .int .i64 q.E]] W fun e w' => (∃ u, e = .returned (.agg #[.int .i64 f, u]) ∧ Own w' W.heap.size w'.heap.size 2 .i64 u l) ∧ Below W.heap.size W w' := by
  rw [← hf, ← hl]
  exact bracketsOf_val v0 v1 v2 q W W.heap.size h0 h1 h2 (Nat.le_refl _) (by omega) (by omega) (by omega) WF hT
theorem cNi (l : List Int) (hf : partF q = f) (hl : neutralsV q = l) (lt : q.T.length ≤ 200) (lf : q.F.length ≤ 200) (ln : q.N.length ≤ 200) (WF : PartWf q) (W : World) (h0 : Sees W W.heap.size .i64 v0 q.T) (h1 : Sees W W.heap.size .i64 v1 q.F) (h2 : Sees W W.heap.size .i64 v2 q.N) (_ : Pairs W) :
    Calls Tryd.prog 18 #[.agg #[v0, v1, v2, .int .i64 q.L, .int .i64 q.S, .int .i64 q.E]] W fun e w' => (∃ u, e = .returned (.agg #[.int .i64 f, u]) ∧ Own w' W.heap.size w'.heap.size 2 .i64 u l) ∧ Below W.heap.size W w' := by
  rw [← hf, ← hl]
  exact neutralsOf_val v0 v1 v2 q W W.heap.size h0 h1 h2 (Nat.le_refl _) (by omega) (by omega) (by omega) WF
theorem cSs (l : List Int) (hf : partF q = f) (hl : sidesV q = l) (lt : q.T.length ≤ 200) (lf : q.F.length ≤ 200) (ln : q.N.length ≤ 200) (W : World) (h0 : Sees W W.heap.size .i64 v0 q.T) (h1 : Sees W W.heap.size .i64 v1 q.F) (h2 : Sees W W.heap.size .i64 v2 q.N) :
    Calls Tryd.prog 19 #[.agg #[v0, v1, v2, .int .i64 q.L, .int .i64 q.S, .int .i64 q.E]] W fun e w' => (∃ u, e = .returned (.agg #[.int .i64 f, u]) ∧ Own w' W.heap.size w'.heap.size 2 .i64 u l) ∧ Below W.heap.size W w' := by
  rw [← hf, ← hl]
  exact specSidesOf_val v0 v1 v2 q W W.heap.size h0 h1 h2 (Nat.le_refl _) (by omega) (by omega) (by omega)
theorem cBs (l : List Int) (hf : partF q = f) (hl : bracketsV q = l) (lt : q.T.length ≤ 200) (lf : q.F.length ≤ 200) (ln : q.N.length ≤ 200) (W : World) (h0 : Sees W W.heap.size .i64 v0 q.T) (h1 : Sees W W.heap.size .i64 v1 q.F) (h2 : Sees W W.heap.size .i64 v2 q.N) :
    Calls Tryd.prog 21 #[.agg #[v0, v1, v2, .int .i64 q.L, .int .i64 q.S, .int .i64 q.E]] W fun e w' => (∃ u, e = .returned (.agg #[.int .i64 f, u]) ∧ Own w' W.heap.size w'.heap.size 2 .i64 u l) ∧ Below W.heap.size W w' := by
  rw [← hf, ← hl]
  exact specBracketsOf_val v0 v1 v2 q W W.heap.size h0 h1 h2 (Nat.le_refl _) (by omega) (by omega) (by omega)
theorem cNs (l : List Int) (hf : partF q = f) (hl : neutralsV q = l) (lt : q.T.length ≤ 200) (lf : q.F.length ≤ 200) (ln : q.N.length ≤ 200) (W : World) (h0 : Sees W W.heap.size .i64 v0 q.T) (h1 : Sees W W.heap.size .i64 v1 q.F) (h2 : Sees W W.heap.size .i64 v2 q.N) :
    Calls Tryd.prog 22 #[.agg #[v0, v1, v2, .int .i64 q.L, .int .i64 q.S, .int .i64 q.E]] W fun e w' => (∃ u, e = .returned (.agg #[.int .i64 f, u]) ∧ Own w' W.heap.size w'.heap.size 2 .i64 u l) ∧ Below W.heap.size W w' := by
  rw [← hf, ← hl]
  exact specNeutralsOf_val v0 v1 v2 q W W.heap.size h0 h1 h2 (Nat.le_refl _) (by omega) (by omega) (by omega)
theorem cPi (l : List Pr) (hf : partF q = f) (hl : pairsV q = l) (lt : q.T.length ≤ 200) (lf : q.F.length ≤ 200) (ln : q.N.length ≤ 200) (WF : PartWf q) (W : World) (h0 : Sees W W.heap.size .i64 v0 q.T) (h1 : Sees W W.heap.size .i64 v1 q.F) (h2 : Sees W W.heap.size .i64 v2 q.N) (hT : Pairs W) :
    Calls Tryd.prog 10 #[.agg #[v0, v1, v2, .int .i64 q.L, .int .i64 q.S, .int .i64 q.E]] W fun e w' => (∃ u, e = .returned (.agg #[.int .i64 f, u]) ∧ OwnPr w' W.heap.size w'.heap.size 34 u l) ∧ Below W.heap.size W w' := by
  rw [← hf, ← hl]
  exact pairsOf_val v0 v1 v2 q W W.heap.size h0 h1 h2 (Nat.le_refl _) (by omega) (by omega) (by omega) WF hT
theorem cPs (l : List Pr) (hf : partF q = f) (hl : pairsV q = l) (lt : q.T.length ≤ 200) (lf : q.F.length ≤ 200) (ln : q.N.length ≤ 200) (W : World) (h0 : Sees W W.heap.size .i64 v0 q.T) (h1 : Sees W W.heap.size .i64 v1 q.F) (h2 : Sees W W.heap.size .i64 v2 q.N) :
    Calls Tryd.prog 11 #[.agg #[v0, v1, v2, .int .i64 q.L, .int .i64 q.S, .int .i64 q.E]] W fun e w' => (∃ u, e = .returned (.agg #[.int .i64 f, u]) ∧ OwnPr w' W.heap.size w'.heap.size 34 u l) ∧ Below W.heap.size W w' := by
  rw [← hf, ← hl]
  exact specPairsOf_val v0 v1 v2 q W W.heap.size h0 h1 h2 (Nat.le_refl _) (by omega) (by omega) (by omega)
theorem cS2 (sv : List Int) (F : SideFacts q) (hsv : sv = sidesN q) (lt : q.T.length ≤ 200) (lf : q.F.length ≤ 200) (WF : PartWf q) (W : World) (h0 : Sees W W.heap.size .i64 v0 q.T) (h1 : Sees W W.heap.size .i64 v1 q.F) (h2 : Sees W W.heap.size .i64 v2 sv) (hT : Pairs W) :
    Calls Tryd.prog 16 #[.agg #[v0, v1, v2, .int .i64 q.L, .int .i64 q.S, .int .i64 q.E]] W fun e w' => (∃ u, e = .returned (.agg #[.int .i64 0, u]) ∧ Own w' W.heap.size w'.heap.size 2 .i64 u sv) ∧ Below W.heap.size W w' := by
  subst hsv
  have h := sidesOf_val v0 v1 v2 ⟨q.T, q.F, sidesN q, q.L, q.S, q.E⟩ W W.heap.size h0 h1 h2 (Nat.le_refl _) (by show q.T.length < _; omega) (by show q.F.length < _; omega) (by show (sidesN q).length < _; rw [F.lenS]; omega) ⟨WF.w0, WF.w1, fun z hz => by have := F.inS z hz; unfold In at this; exact wf_small7 (by omega) (by omega), WF.wL, WF.wS, WF.wE⟩ hT
  have e : sidesV ⟨q.T, q.F, sidesN q, q.L, q.S, q.E⟩ = sidesN q := by unfold sidesV; rw [if_pos F.again, F.same]
  rw [F.again, e] at h
  exact h
end
attribute [local go_sem] Oper.semAt_some
theorem field7_c0 (y : Value) (n : Int) (w : World) : (Instr.field 39 (.agg #[.int .i64 n, y]) 0).run Tryd.prog w = .ok (.int .i64 n) w := by simp [Instr.field, go_sem, asAgg]
theorem field7_c1 (x : Value) (A : Option Addr) (n c : Nat) (w : World) : (Instr.field 39 (.agg #[x, .slice A n c]) 1).run Tryd.prog w = .ok (.slice A n c) w := by simp [Instr.field, go_sem, asAgg]
theorem field7_p0 (y : Value) (n : Int) (w : World) : (Instr.field 30 (.agg #[.int .i64 n, y]) 0).run Tryd.prog w = .ok (.int .i64 n) w := by simp [Instr.field, go_sem, asAgg]
theorem field7_p1 (x : Value) (A : Option Addr) (n c : Nat) (w : World) : (Instr.field 30 (.agg #[x, .slice A n c]) 1).run Tryd.prog w = .ok (.slice A n c) w := by simp [Instr.field, go_sem, asAgg]
end Go.Proofs.YtkkojemnbcddfaaDoor
