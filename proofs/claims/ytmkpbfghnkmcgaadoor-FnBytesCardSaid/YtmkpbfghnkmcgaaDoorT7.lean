/- The program's pieces: an iterator; DecodeChunk, which ranges over it. -/
import Derived.Test.YtmkpbfghnkmcgaaDoorT6
import Derived.Test.YtmkpbfghnkmcgaaDoorM3
import Derived.RangeFuncNested
import Derived.RangeFuncBound
import Derived.RangeFuncCalls
import Derived.RangeFuncLeaves
import Derived.Shelf.Abstract
import Derived.Shelf.RegionOpen
import Derived.OwnWalkIn
import Derived.TacticsInMore
import Derived.LoopNIn
import Derived.LoopIn
namespace Go.Proofs.YtmkpbfghnkmcgaaDoor
open Go.RowKit Go.Shelf
attribute [local go_sem] Oper.semAt_some

/-- what yield is handed at a place -/
def pieceAt (b off C : Nat) (zs : List Int) (k : Nat) : Value :=
  .agg #[.slice (some ⟨b, off + k, none⟩) (front (zs.drop k)) (C - k), .int .i64 (dr (zs.drop k)).1, .bool (opn (zs.drop k))]

/-- all that lay below n₀ is as it was, but for block q -/
structure FrQ (n₀ q : Nat) (W W' : World) : Prop where
  size : W.heap.size ≤ W'.heap.size
  block : ∀ k, k < n₀ → k ≠ q → W'.heap[k]? = W.heap[k]?
theorem FrQ.refl (n₀ q : Nat) (W : World) : FrQ n₀ q W W := ⟨Nat.le_refl _, fun _ _ _ => rfl⟩
theorem FrQ.trans {n₀ q : Nat} {A B C : World} (h : FrQ n₀ q A B) (k : FrQ n₀ q B C) : FrQ n₀ q A C := ⟨Nat.le_trans h.size k.size, fun i hi hq => (k.block i hi hq).trans (h.block i hi hq)⟩
theorem FrQ.of_below {n₀ q : Nat} {W W' : World} (h : Below W.heap.size W W') (hn : n₀ ≤ W.heap.size) : FrQ n₀ q W W' := ⟨h.size, fun k hk _ => h.block k (Nat.lt_of_lt_of_le hk hn)⟩
theorem FrQ.tabs {n₀ q : Nat} {W W' : World} (h : FrQ n₀ q W W') (hT : Tabs W) (h0 : 0 < n₀ ∧ 1 < n₀) (hq : 0 ≠ q ∧ 1 ≠ q) : Tabs W' :=
  hT.keep (h.block _ h0.1 hq.1) (h.block _ h0.2 hq.2)
theorem Rd.frq {n₀ q : Nat} {W W' : World} {B b off : Nat} {xs : List Value} (h : Rd W B (some ⟨b, off, none⟩) xs) (hf : FrQ n₀ q W W') (hb : b < n₀) (hq : b ≠ q) : Rd W' B (some ⟨b, off, none⟩) xs := by
  intro k u hu
  obtain ⟨b', off', e, h2, h3⟩ := h k u hu
  injection e with e
  injection e with e1 e2
  subst e1; subst e2
  refine ⟨b, off, rfl, h2, ?_⟩
  rw [← h3]
  unfold World.cell?
  rw [hf.block b hb hq]

/-- what a round keeps: all that lay below n₀ but block q, and every block of pieces -/
structure KpD (n₀ q : Nat) (W W' : World) : Prop where
  frq : FrQ n₀ q W W'
  box : ∀ g cs, Blk W g 60 cs → Blk W' g 60 cs
theorem KpD.refl (n₀ q : Nat) (W : World) : KpD n₀ q W W := ⟨FrQ.refl _ _ _, fun _ _ h => h⟩
theorem KpD.trans {n₀ q : Nat} {A B C : World} (h : KpD n₀ q A B) (k : KpD n₀ q B C) : KpD n₀ q A C := ⟨h.frq.trans k.frq, fun g cs hb => k.box g cs (h.box g cs hb)⟩
theorem KpD.of_below {n₀ q : Nat} {W W' : World} (h : Below W.heap.size W W') (hn : n₀ ≤ W.heap.size) : KpD n₀ q W W' := ⟨FrQ.of_below h hn, fun _ _ hb => hb.below h hb.lt⟩

theorem firstPiece_n (b off : Nat) (bs : List Int) (m c : Nat) (w : World) (B : Nat) (hm : bs.length = m) (hT : Tabs w) (hr : Rd w B (some ⟨b, off, none⟩) (nums .u8 bs)) (hB : B ≤ w.heap.size) (hb : ∀ b ∈ bs, isByte b) (h0 : 0 < bs.length) (hl : bs.length < 1000000000) (hcap : bs.length ≤ c) :
    Calls Tryd.prog 56 #[.slice (some ⟨b, off, none⟩) m c] w fun e w' => e = .returned (.agg #[.slice (some ⟨b, off, none⟩) (front bs) c, .int .i64 (dr bs).1, .bool (opn bs)]) ∧ Below w.heap.size w w' := by
  subst hm; exact firstPiece_any b off bs c w B hT hr hB hb h0 hl hcap

set_option maxRecDepth 100000 in
set_option maxHeartbeats 2000000 in
theorem pieces1_in (n : Nat) (hn : 1 ≤ n) (l Bs n₀ q b off C : Nat) (zs : List Int) (hC : zs.length ≤ C) (hl : zs.length < 1000000000) (hby : ∀ x ∈ zs, isByte x) (J Jx : List (Pos zs) → World → Prop)
    (hY : ∀ pre (x : Pos zs) W, J pre W → pre.length < zs.length → YieldAt Fence.wide (n - 1) Tryd.prog l #[pieceAt b off C zs x.1] W fun e W' =>
      (e = .returned (.bool true) ∧ J (pre ++ [x]) W' ∧ KpD n₀ q W W') ∨ (e = .returned (.bool false) ∧ Jx (pre ++ [x]) W'))
    (hJ : ∀ pre W W', J pre W → Below W.heap.size W W' → J pre W')
    (W : World) (hn₀ : n₀ ≤ W.heap.size) (hT : Tabs W) (hT0 : 0 < n₀ ∧ 1 < n₀) (hTq : 0 ≠ q ∧ 1 ≠ q) (hbn : b < n₀) (hbq : b ≠ q) (hBs : W.cell? ⟨Bs, 0, none⟩ = some (.slice (some ⟨b, off, none⟩) zs.length C)) (hr : Rd W n₀ (some ⟨b, off, none⟩) (nums .u8 zs)) (h0 : J [] W) :
    CallsIn Fence.wide n Tryd.prog 55 #[.func (.yield l) #[] #[], .pointer (some ⟨Bs, 0, none⟩)] W fun e W' => (∃ v, e = .returned v) ∧
      ((∃ ys, ys = posA zs 0 ∧ J ys W') ∨ (∃ pre, True ∧ Jx pre W')) := by
  have HT := Lib.hid hT
  have HR := Lib.hid hr
  have HB := Lib.hid hby
  clear hT hr hby
  refine callsIn_of_wp Tryd.func55 rfl trivial ?_ rfl
  simp only [Tryd.ntmps55, List.size_toArray, List.length_cons, List.length_nil, Nat.reduceAdd, Nat.reduceSub, Array.replicate_succ, Array.replicate_zero, List.push_toArray, List.append_toArray, List.nil_append, List.cons_append]
  gi_wp2
  gi_loopw [3] (fun p wr => ∃ (k : Nat) (pre : List (Pos zs)) (A : Option Addr), k ≤ zs.length ∧ pre.length ≤ k ∧ p = .slice A (zs.length - k) (C - k) ∧ (k < zs.length → A = some ⟨b, off + k, none⟩) ∧ Hid (posA zs 0 = pre ++ posA zs k) ∧ J pre wr ∧ FrQ n₀ q W wr)
    (fun p _ => match p with | .slice _ m _ => m | _ => 0)
  case atStart => exact ⟨0, [], _, Nat.zero_le _, by simp, rfl, fun _ => rfl, Lib.hid (by simp), h0, FrQ.refl _ _ _⟩
  case round =>
    obtain ⟨k, pre, A, hk, hpl, rfl, hA, hP, hJs, hnx⟩ := hrel
    by_cases hlt : k < zs.length
    · obtain rfl := hA hlt
      clear hA
      have hdl : (zs.drop k).length = zs.length - k := by simp
      have DL := Lib.hid hdl
      have fl := front_len (zs.drop k) (by rw [hdl]; omega)
      have flo := front_lo (zs.drop k)
      rw [hdl] at fl
      obtain ⟨F, hF⟩ : ∃ F, Hid (F = front (zs.drop k)) := ⟨_, Lib.hid rfl⟩
      rw [← hF.out] at fl flo
      clear hdl
      have sz := hnx.size
      gi_wp2_with (refine ⟨trivial, ?_⟩; gi_at_call 56; refine (callsIn_wide.2 (firstPiece_n b (off + k) (zs.drop k) (zs.length - k) (C - k) _ n₀ DL.out (hnx.tabs HT.out hT0 hTq) (by rw [nums_drop]; exact (HR.out.frq hnx hbn hbq).drop k) (by omega) (fun x hx => HB.out x (List.mem_of_mem_drop hx)) (by rw [DL.out]; omega) (by rw [DL.out]; omega) (by rw [DL.out]; omega))).mono ?_; rintro e w1 ⟨rfl, b1⟩; have b2 := b1.alloc b1.size (.cells #[.slice (some ⟨b, off + k, none⟩) (front (zs.drop k)) (C - k), .int .i64 (dr (zs.drop k)).1, .bool (opn (zs.drop k))] 60); have hJ2 := hJ pre wr _ hJs b2; have KB := Lib.hid (Blk.new w1 60 #[.slice (some ⟨b, off + k, none⟩) (front (zs.drop k)) (C - k), .int .i64 (dr (zs.drop k)).1, .bool (opn (zs.drop k))]); obtain ⟨fn, tmps, assign, body, hy, hR⟩ := hY pre ⟨k, hlt⟩ _ hJ2 (by omega); dsimp only [pieceAt] at hy)
      refine hR.mono ?_
      rintro e W3 (⟨rfl, hJ3, hk3⟩ | ⟨rfl, hJx3⟩)
      · have hc3 := (hk3.box _ _ KB.out).cell 0 (u := .slice (some ⟨b, off + k, none⟩) (front (zs.drop k)) (C - k)) rfl
        rw [← hF.out] at hc3
        have b3 := (hnx.trans (FrQ.of_below b2 (by omega))).trans hk3.frq
        have PS : Hid (posA zs 0 = (pre ++ [⟨k, hlt⟩]) ++ posA zs (k + F)) := Lib.hid (by rw [hP.out, posA_step zs k hlt, hF.out]; simp)
        by_cases hcf : C - k = F
        · have hkF : k + F = zs.length := by omega
          gi_wp2
          go_roundw
          case rel => exact ⟨k + F, _, _, by omega, by simp; omega, by rw [Nat.sub_sub, show C - (k + F) = 0 by omega], fun h => by omega, PS, hJ3, b3⟩
          case measure => simp only; omega
        · gi_wp2
          go_roundw
          case rel => exact ⟨k + F, _, _, by omega, by simp; omega, by rw [Nat.sub_sub, Nat.sub_sub], fun _ => by rw [Nat.add_assoc], PS, hJ3, b3⟩
          case measure => simp only; omega
      · gi_wp2
        refine bodyPost_ret (results_none rfl _ _ _) rfl ?_
        exact ⟨⟨_, rfl⟩, .inr ⟨_, trivial, hJx3⟩⟩
    · obtain rfl : k = zs.length := by omega
      clear hA
      gi_wp2
      go_end0
      exact ⟨⟨_, rfl⟩, .inl ⟨pre, by rw [hP.out, posA_end _ _ (Nat.le_refl _), List.append_nil], hJs⟩⟩

set_option maxRecDepth 100000 in
set_option maxHeartbeats 1000000 in
/-- .. of no bytes: no round -/
theorem pieces1_nil (n : Nat) (l Bs C : Nat) (A : Option Addr) {β : Type} (J : List β → World → Prop) (W : World) (hBs : W.cell? ⟨Bs, 0, none⟩ = some (.slice A 0 C)) (h0 : J [] W) :
    CallsIn Fence.wide n Tryd.prog 55 #[.func (.yield l) #[] #[], .pointer (some ⟨Bs, 0, none⟩)] W fun e W' => (∃ v, e = .returned v) ∧ J [] W' := by
  refine callsIn_of_wp Tryd.func55 rfl trivial ?_ rfl
  simp only [Tryd.ntmps55, List.size_toArray, List.length_cons, List.length_nil, Nat.reduceAdd, Nat.reduceSub, Array.replicate_succ, Array.replicate_zero, List.push_toArray, List.append_toArray, List.nil_append, List.cons_append]
  gi_wp2
  gi_loopw [3] (fun p wr => p = .slice A 0 C ∧ wr = W) (fun _ _ => 0)
  case atStart => exact ⟨rfl, rfl⟩
  case round =>
    obtain ⟨rfl, rfl⟩ := hrel
    gi_wp2
    go_end0
    exact ⟨⟨_, rfl⟩, h0⟩

theorem pieces_stops (n : Nat) (hn : 1 ≤ n) (Bs n₀ q C : Nat) (A : Option Addr) (zs : List Int) (hC : zs.length ≤ C) (hl : zs.length < 1000000000) (hby : ∀ x ∈ zs, isByte x) (w : World) (hBs' : Bs < w.heap.size) (hn₀ : n₀ ≤ w.heap.size) (hT : Tabs w)
    (hT0 : 0 < n₀ ∧ 1 < n₀) (hTq : 0 ≠ q ∧ 1 ≠ q) (hbq : ∀ b, Option.map Addr.block A = some b → b ≠ q) (hBs : w.cell? ⟨Bs, 0, none⟩ = some (.slice A zs.length C)) (hr : Rd w n₀ A (nums .u8 zs)) :
    SeqStopsK Fence.wide n Tryd.prog 55 #[.pointer (some ⟨Bs, 0, none⟩)] (fun (x : Pos zs) => #[pieceAt (A.getD ⟨0, 0, none⟩).block (A.getD ⟨0, 0, none⟩).off C zs x.1]) (KpD n₀ q) (fun ys => ys = posA zs 0) (fun _ => True) zs.length w := by
  intro l J Jx W hW hJ _ hY h0
  have hBs2 := (hW.cell (p := ⟨Bs, 0, none⟩) hBs').trans hBs
  have hab : ∀ pre W1 W2, J pre W1 → Below W1.heap.size W1 W2 → J pre W2 := fun pre W1 W2 h hb => hJ pre W1 W2 none h (grown_of_below hb none) (fun r e => by cases e)
  by_cases hz : 0 < zs.length
  · obtain ⟨b, off, rfl, hb, _⟩ := hr.int hz
    exact pieces1_in n hn l Bs n₀ q b off C zs hC hl hby J Jx hY hab W (by have := hW.size; omega) (hT.on hW) hT0 hTq hb (hbq b rfl) hBs2 (hr.below hW hn₀) h0
  · obtain rfl : zs = [] := List.eq_nil_of_length_eq_zero (by omega)
    refine (pieces1_nil n l Bs C A J W hBs2 h0).mono fun e W' ⟨he, hj⟩ => ⟨he, .inl ⟨[], by rw [posA_end [] 0 (by simp)], hj⟩⟩

set_option maxRecDepth 100000 in
set_option maxHeartbeats 1000000 in
theorem pieces_any (A : Option Addr) (m c : Nat) (w : World) :
    Calls Tryd.prog 37 #[.slice A m c] w fun e w' => e = .returned (.func (.func 55) #[] #[.pointer (some ⟨w.heap.size, 0, none⟩)]) ∧ w' = w.alloc (.cells #[.slice A m c] 22) := by
  go_enter Tryd.func37, Tryd.ntmps37
  go_wp2
  go_ret
  exact ⟨rfl, rfl⟩
end Go.Proofs.YtmkpbfghnkmcgaaDoor
