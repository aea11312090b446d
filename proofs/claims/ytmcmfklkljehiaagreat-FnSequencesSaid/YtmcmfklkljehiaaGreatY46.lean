/- FnSequences: the walk (laid by wip/bin/genseq.py). -/
import Derived.Test.YtmcmfklkljehiaaGreatY30
import Derived.Test.YtmcmfklkljehiaaGreatY35
import Derived.Test.YtmcmfklkljehiaaGreatY42
import Derived.Test.YtmcmfklkljehiaaGreatY45
import Derived.Test.YtmcmfklkljehiaaGreatY37
import Derived.Test.YtmcmfklkljehiaaGreatY06
import Derived.Laws.StructEq
import Derived.Deep.RegionHeld3
import Derived.BigQuiet
import Derived.Deep.QuietTactic
namespace Go.Proofs.YtmcmfklkljehiaaGreat
open Go.RowKit
theorem info_bool : (Tryz.prog.info? 4).map (fun i => (i.zero, i.size, i.bytes)) = some (some (.bool false), 1, 1) := by kernel_rfl
def bools (l : List Bool) : List Value := l.map Value.bool
theorem bools_set (l : List Bool) (k : Nat) (x : Bool) : (bools l).set k (.bool x) = bools (l.set k x) := by simp [bools]
theorem bools_get (n : Nat) (l : List Int) (x : Nat) (h : x < n) : (bools (signs n l))[x]? = some (.bool (decide ((x : Int) ∈ l))) := by simp [bools, List.getElem?_map, signs_get n l x h]
theorem bools_nil (n : Nat) : bools (signs n []) = List.replicate n (.bool false) := by simp [bools, signs_nil]
/-- what is known of the sequences -/
structure QFacts (Q : List Sq) (ls : List Int) : Prop where
  rise : ∀ i, i < Q.length → (nthQ Q i).places.Pairwise (· < ·)
  place : ∀ i, i < Q.length → ∀ k, k < (nthQ Q i).places.length → ∃ x : Nat, nth (nthQ Q i).places k = (x : Int) ∧ x < ls.length ∧ nth ls x = (nthQ Q i).level
  sides : ∀ i, i < Q.length → ((nthQ Q i).sos = 0 ∨ (nthQ Q i).sos = 1) ∧ ((nthQ Q i).eos = 0 ∨ (nthQ Q i).eos = 1)
  once : ((Q.map (·.places)).flatten).Nodup
  all : ((Q.map (·.places)).flatten).length = (keptN ls ls.length).length
theorem nthQ_mem {Q : List Sq} {i : Nat} (h : i < Q.length) : nthQ Q i ∈ Q := List.mem_of_getElem? (nthQ_get Q i h)
theorem qfacts {ks : List Int} {b : Int} (hb : 0 ≤ b ∧ b ≤ 1) : QFacts (seqsN ks b) (levN ks b) where
  rise := fun i hi => (seq_facts hb (nthQ_mem hi)).1
  place := fun i hi k hk => by
    obtain ⟨h1, h2, h3⟩ := (seq_facts hb (nthQ_mem hi)).2.1 _ (nth_mem hk)
    refine ⟨(nth (nthQ (seqsN ks b) i).places k).toNat, by omega, by rw [levN_len]; omega, h3⟩
  sides := fun i hi => (seq_facts hb (nthQ_mem hi)).2.2
  once := places_once hb
  all := places_len hb
theorem QFacts.len {Q : List Sq} {ls : List Int} (h : QFacts Q ls) (i k : Nat) : (metL Q i k).length ≤ (keptN ls ls.length).length := by rw [← h.all]; exact metL_len Q i k
theorem QFacts.places {Q : List Sq} {ls : List Int} (h : QFacts Q ls) (i : Nat) (hi : i < Q.length) : (nthQ Q i).places.length ≤ ls.length := by
  have a := h.len i (nthQ Q i).places.length
  have b := keptN_len ls ls.length
  unfold metL at a
  rw [List.length_append, List.take_of_length_le (Nat.le_refl _)] at a
  omega
theorem lwBig_any5 (A : Option Addr) (n c : Nat) (w : World) :
    Calls Tryz.prog 4 #[.slice A n c] w fun e w' => e = .returned (.bool (decide (1048576 < n))) ∧ w = w' := by
  go_enter Tryz.func4, Tryz.ntmps4
  go_wp2
  go_ret
  exact ⟨rbool (by simp; omega), rfl⟩
theorem SeesQS.form' {w : World} {B : Nat} {v : Value} {qs : List Sq} (h : SeesQS w B v qs) : ∃ A c, v = .slice A qs.length c := by obtain ⟨us, h⟩ := h; exact h.form
theorem eq1_refl (q : Sq) : eq1 q q = true := by simp [eq1]
theorem eqQ_refl : ∀ qs : List Sq, eqQ qs qs = true
  | [] => rfl
  | q :: r => by show (eq1 q q && eqQ r r) = true; rw [eq1_refl, eqQ_refl r]; rfl
theorem same_self (v u : Value) (qs : List Sq) (w : World) (h1 : SeesQS w w.heap.size v qs) (h2 : SeesQS w w.heap.size u qs) (hl : qs.length < 2000000) (l1 : ∀ j, j < qs.length → (nthQ qs j).places.length ≤ 300000000) :
    Calls Tryz.prog 11 #[v, u] w fun e w' => e = .returned (.bool true) ∧ Below w.heap.size w w' :=
  (sameSequences_any v u qs qs w _ _ h1 h2 (Nat.le_refl _) (Nat.le_refl _) hl hl (fun j hj => by have := l1 j hj; omega) (fun j hj => by have := l1 j hj; omega)).mono fun e w' ⟨he, hb⟩ => ⟨by rw [he, eqQ_refl], hb⟩
theorem keep5 {w w' : World} {B : Nat} {kd : IntKind} {v : Value} {zss : List (List Int)} (h : SeesSS w B kd v zss) (e : w.heap = w'.heap) : SeesSS w' B kd v zss := by
  obtain ⟨us, h⟩ := h; exact ⟨us, h.keep fun k _ => by rw [e]⟩
theorem lwLists_see5 (A A' : Option Addr) (n n' c c' : Nat) {xs : List (List Int)} {w w0 w1 : World} {B B' : Nat} (h1 : SeesSS w0 B .i64 (.slice A n c) xs) (h2 : SeesSS w1 B' .i64 (.slice A' n' c') xs) (l1 : xs.length + total xs < 1000000000) (e0 : w0.heap = w.heap := by rfl) (e1 : w1.heap = w.heap := by rfl) :
    Calls Tryz.prog 12 #[.slice A n c, .slice A' n' c'] w fun e w' => e = .returned (.bool true) ∧ ∃ n, w' = w.drewN n :=
  lwLists_same _ _ xs w B B' (keep5 h1 e0) (keep5 h2 e1) l1
end Go.Proofs.YtmcmfklkljehiaaGreat
namespace Go.Proofs.YtmcmfklkljehiaaGreat.fnSequences
open Go.RowKit

attribute [local go_sem] Oper.semAt_some
theorem field_s0 (y : Value) (n : Int) (w : World) : (Instr.field 29 (.agg #[.int .i64 n, y]) 0).run Tryz.prog w = .ok (.int .i64 n) w := by simp [Instr.field, go_sem, asAgg]
theorem field_s1 (x : Value) (A : Option Addr) (n c : Nat) (w : World) : (Instr.field 29 (.agg #[x, .slice A n c]) 1).run Tryz.prog w = .ok (.slice A n c) w := by simp [Instr.field, go_sem, asAgg]
theorem field_r1 (x : Value) (A : Option Addr) (n c : Nat) (w : World) : (Instr.field 33 (.agg #[x, .slice A n c]) 1).run Tryz.prog w = .ok (.slice A n c) w := by simp [Instr.field, go_sem, asAgg]
theorem field_l1 (x y : Value) (A : Option Addr) (n c : Nat) (w : World) : (Instr.field 42 (.agg #[x, .slice A n c, y]) 1).run Tryz.prog w = .ok (.slice A n c) w := by simp [Instr.field, go_sem, asAgg]
attribute [local go_sem] field_s0 field_s1 field_r1 field_l1

set_option maxRecDepth 100000 in
set_option maxHeartbeats 8000000 in
theorem walk (A : Option Addr) (zs : List Int) (c : Nat) (w : World) (r : Rd w w.heap.size A (nums .u8 zs)) (hw : ∀ n ∈ zs, (Lit.int .u8 n).wf = true) :
    Calls Tryz.prog 3 #[.slice A zs.length c] w fun e w' => e = .returned (.bool true) ∧ Below w.heap.size w w' := by
  by_cases hl : 1048576 < zs.length
  · have d0 : decide (1048576 < zs.length) = true := by simp [hl]
    go_enter Tryz.func3, Tryz.ntmps3
    go_wp2_with fail
    refine (lwBig_any5 A zs.length c w).mono ?_
    rintro e w1 ⟨rfl, rfl⟩
    rw [d0]
    go_wp2
    go_ret
    exact ⟨rfl, Below.refl _ _⟩
  · have d0 : decide (1048576 < zs.length) = false := by simp [hl]
    have HB := Lib.hid (bytes_of hw)
    have zl : zs.length < 2000000 := by omega
    have R := r
    clear hl r hw
    go_enter Tryz.func3, Tryz.ntmps3
    go_wp2_with fail
    refine (lwBig_any5 A zs.length c w).mono ?_
    rintro e w1 ⟨rfl, rfl⟩
    rw [d0]
    have HBW := Below.refl w.heap.size w
    go_wp2_with fail
    refine (drawSequencesOf_any A c zs w R HB.out zl).mono ?_
    rintro e w1 ⟨⟨v, b, rfl, ts, o, lt, dt, b0, b3⟩, b1⟩
    replace R := R.on b1
    replace HBW := below_on HBW b1 (Nat.le_refl _)
    clear b1
    obtain ⟨A1, c1, rfl⟩ := o.form
    have sT := o.sees
    have CT := Lib.hid o.capv
    clear o
    have WT := Lib.hid dt.wf
    have WB := Lib.hid (wf_side (n := b) (by omega) (by omega))
    clear dt
    go_wp2_with fail
    refine (sequencesOf_vals _ ts b w1 w1.heap.size sT (Nat.le_refl _) (by omega) WT.out CT.out WB.out).mono ?_
    rintro e w2 ⟨⟨u, rfl, o⟩, b2⟩
    replace R := R.on b2
    replace sT := (sT.below b2 (Nat.le_refl _)).more b2.size
    replace HBW := below_on HBW b2 (Nat.le_refl _)
    clear b2
    obtain ⟨A2, c2, rfl⟩ := o.form
    have sS := o.sees
    clear o
    have sl := seqsV_len ts b
    have SP := Lib.hid (seqsV_places ts b)
    have b3 := (Below.refl w2.heap.size w2).alloc (Nat.le_refl _) (.cells #[.int .i64 (paraF ts b), .slice A2 (seqsV ts b).length c2] 29)
    have kS := Blk.new w2 29 #[.int .i64 (paraF ts b), .slice A2 (seqsV ts b).length c2]
    replace R := R.on b3
    replace sT := (sT.below b3 (Nat.le_refl _)).more b3.size
    replace sS := (sS.below b3 (Nat.le_refl _)).more b3.size
    replace HBW := below_on HBW b3 (Nat.le_refl _)
    clear b3
    go_wp2_with fail
    generalize hg3 : w2.alloc (.cells #[.int .i64 (paraF ts b), .slice A2 (seqsV ts b).length c2] 29) = w3 at *
    clear hg3
    refine (runsOf_val _ ts b w3 w3.heap.size sT (Nat.le_refl _) (by omega) WT.out CT.out WB.out).mono ?_
    rintro e w4 ⟨⟨u, rfl, o⟩, b4⟩
    replace R := R.on b4
    replace sT := (sT.below b4 (Nat.le_refl _)).more b4.size
    replace sS := (sS.below b4 (Nat.le_refl _)).more b4.size
    replace kS := kS.below b4 kS.lt
    replace HBW := below_on HBW b4 (Nat.le_refl _)
    clear b4
    obtain ⟨A3, c3, rfl⟩ := o.form
    have sR := o.sees
    clear o
    have rt := runsV_total ts b
    have b5 := (Below.refl w4.heap.size w4).alloc (Nat.le_refl _) (.cells #[.int .i64 (paraF ts b), .slice A3 (runsV ts b).length c3] 33)
    have kR := Blk.new w4 33 #[.int .i64 (paraF ts b), .slice A3 (runsV ts b).length c3]
    replace R := R.on b5
    replace sT := (sT.below b5 (Nat.le_refl _)).more b5.size
    replace sS := (sS.below b5 (Nat.le_refl _)).more b5.size
    replace kS := kS.below b5 kS.lt
    replace sR := (sR.below b5 (Nat.le_refl _)).more b5.size
    replace HBW := below_on HBW b5 (Nat.le_refl _)
    clear b5
    go_wp2_with fail
    generalize hg5 : w4.alloc (.cells #[.int .i64 (paraF ts b), .slice A3 (runsV ts b).length c3] 33) = w5 at *
    clear hg5
    refine (drawSideOf_any A c zs w5 R HB.out zl).mono ?_
    rintro e w6 ⟨⟨sn, rfl, sn0, sn1⟩, b6⟩
    replace R := R.on b6
    replace sT := (sT.below b6 (Nat.le_refl _)).more b6.size
    replace sS := (sS.below b6 (Nat.le_refl _)).more b6.size
    replace kS := kS.below b6 kS.lt
    replace sR := (sR.below b6 (Nat.le_refl _)).more b6.size
    replace kR := kR.below b6 kR.lt
    replace HBW := below_on HBW b6 (Nat.le_refl _)
    clear b6
    go_wp2_with fail
    refine (drawSameSequences_any A c zs w6 R HB.out zl).mono ?_
    rintro e w7 ⟨⟨v1, v2, rfl, ⟨qa, sA, la, pa⟩, ⟨qb, sB, lb, pb⟩⟩, b7⟩
    replace R := R.on b7
    replace sT := (sT.below b7 (Nat.le_refl _)).more b7.size
    replace sS := (sS.below b7 (Nat.le_refl _)).more b7.size
    replace kS := kS.below b7 kS.lt
    replace sR := (sR.below b7 (Nat.le_refl _)).more b7.size
    replace kR := kR.below b7 kR.lt
    replace HBW := below_on HBW b7 (Nat.le_refl _)
    clear b7
    have PA := Lib.hid pa
    have PB := Lib.hid pb
    clear pa pb
    obtain ⟨A4, c4, rfl⟩ := sA.form'
    obtain ⟨A5, c5, rfl⟩ := sB.form'
    go_wp2_with fail
    have bz : Below w7.heap.size w7 w7.drew := ⟨rfl, rfl, rfl, Nat.le_refl _, fun _ _ => rfl⟩
    replace R := R.on bz
    replace sT := (sT.below bz (Nat.le_refl _)).more bz.size
    replace sS := (sS.below bz (Nat.le_refl _)).more bz.size
    replace kS := kS.below bz kS.lt
    replace sR := (sR.below bz (Nat.le_refl _)).more bz.size
    replace kR := kR.below bz kR.lt
    replace sA := (sA.below bz (Nat.le_refl _)).more bz.size
    replace sB := (sB.below bz (Nat.le_refl _)).more bz.size
    replace HBW := below_on HBW bz (Nat.le_refl _)
    clear bz
    go_region_held3 (fun w' => w'.cell? ⟨w2.heap.size, 0, none⟩ = some (.int .i64 (paraF ts b)) ∧ w'.cell? ⟨w2.heap.size, 1, none⟩ = some (.slice A2 (seqsV ts b).length c2) ∧ w'.cell? ⟨w4.heap.size, 0, none⟩ = some (.int .i64 (paraF ts b)) ∧ w'.cell? ⟨w4.heap.size, 1, none⟩ = some (.slice A3 (runsV ts b).length c3)) (exact ⟨kS.cell 0 rfl, kS.cell 1 rfl, kR.cell 0 rfl, kR.cell 1 rfl⟩) (first
      | (go_at_call 10; refine (specSequencesOf_vals _ ts b _ _ sT (Nat.le_refl _) (by omega) WT.out CT.out WB.out).mono ?_; rintro e w101 ⟨⟨y1, rfl, z1⟩, b101⟩; have qb101 : Below w7.drew.heap.size w7.drew w101 := ⟨b101.os, b101.tape, b101.output, b101.size, b101.block⟩; replace R := R.on qb101; replace sT := (sT.below qb101 (Nat.le_refl _)).more qb101.size; replace sS := (sS.below qb101 (Nat.le_refl _)).more qb101.size; replace kS := kS.below qb101 kS.lt; replace sR := (sR.below qb101 (Nat.le_refl _)).more qb101.size; replace kR := kR.below qb101 kR.lt; replace sA := (sA.below qb101 (Nat.le_refl _)).more qb101.size; replace sB := (sB.below qb101 (Nat.le_refl _)).more qb101.size; replace HBW := below_on HBW qb101 (Nat.le_refl _); clear b101 qb101; obtain ⟨B1, e1, rfl⟩ := z1.form; clear z1)
      | (go_at_call 10; refine (specSequencesOf_vals _ ts b _ _ sT (Nat.le_refl _) (by omega) WT.out CT.out WB.out).mono ?_; rintro e w102 ⟨⟨y1, rfl, z1⟩, b102⟩; have qb102 : Below w101.heap.size w101 w102 := ⟨b102.os, b102.tape, b102.output, b102.size, b102.block⟩; replace R := R.on qb102; replace sT := (sT.below qb102 (Nat.le_refl _)).more qb102.size; replace sS := (sS.below qb102 (Nat.le_refl _)).more qb102.size; replace kS := kS.below qb102 kS.lt; replace sR := (sR.below qb102 (Nat.le_refl _)).more qb102.size; replace kR := kR.below qb102 kR.lt; replace sA := (sA.below qb102 (Nat.le_refl _)).more qb102.size; replace sB := (sB.below qb102 (Nat.le_refl _)).more qb102.size; replace HBW := below_on HBW qb102 (Nat.le_refl _); clear b102 qb102; obtain ⟨B2, e2, rfl⟩ := z1.form; have sS2 := z1.sees; clear z1)
      | (go_at_call 11; refine (same_self _ _ _ _ sS sS2 (by omega) SP.out).mono ?_; rintro e w103 ⟨rfl, b103⟩; have qb103 : Below w102.heap.size w102 w103 := ⟨b103.os, b103.tape, b103.output, b103.size, b103.block⟩; replace R := R.on qb103; replace sT := (sT.below qb103 (Nat.le_refl _)).more qb103.size; replace sS := (sS.below qb103 (Nat.le_refl _)).more qb103.size; replace kS := kS.below qb103 kS.lt; replace sR := (sR.below qb103 (Nat.le_refl _)).more qb103.size; replace kR := kR.below qb103 kR.lt; replace sA := (sA.below qb103 (Nat.le_refl _)).more qb103.size; replace sB := (sB.below qb103 (Nat.le_refl _)).more qb103.size; replace HBW := below_on HBW qb103 (Nat.le_refl _); clear b103 qb103)
      | (go_at_call 13; refine (specRunsOf_val _ ts b _ _ sT (Nat.le_refl _) (by omega) WT.out CT.out WB.out).mono ?_; rintro e w104 ⟨⟨y1, rfl, z1⟩, b104⟩; have qb104 : Below w103.heap.size w103 w104 := ⟨b104.os, b104.tape, b104.output, b104.size, b104.block⟩; replace R := R.on qb104; replace sT := (sT.below qb104 (Nat.le_refl _)).more qb104.size; replace sS := (sS.below qb104 (Nat.le_refl _)).more qb104.size; replace kS := kS.below qb104 kS.lt; replace sR := (sR.below qb104 (Nat.le_refl _)).more qb104.size; replace kR := kR.below qb104 kR.lt; replace sA := (sA.below qb104 (Nat.le_refl _)).more qb104.size; replace sB := (sB.below qb104 (Nat.le_refl _)).more qb104.size; replace HBW := below_on HBW qb104 (Nat.le_refl _); clear b104 qb104; obtain ⟨B3, e3, rfl⟩ := z1.form; have sR2 := z1.sees; clear z1)
      | (go_at_call 12; refine (lwLists_see5 _ _ _ _ _ _ sR sR2 (by omega)).mono ?_; rintro e w105 ⟨rfl, n105, hn105⟩; have b105 := below_drawn hn105; clear hn105; have qb105 : Below w104.heap.size w104 w105 := ⟨b105.os, b105.tape, b105.output, b105.size, b105.block⟩; replace R := R.on qb105; replace sT := (sT.below qb105 (Nat.le_refl _)).more qb105.size; replace sS := (sS.below qb105 (Nat.le_refl _)).more qb105.size; replace kS := kS.below qb105 kS.lt; replace sR := (sR.below qb105 (Nat.le_refl _)).more qb105.size; replace kR := kR.below qb105 kR.lt; replace sA := (sA.below qb105 (Nat.le_refl _)).more qb105.size; replace sB := (sB.below qb105 (Nat.le_refl _)).more qb105.size; replace HBW := below_on HBW qb105 (Nat.le_refl _); clear b105 qb105)
      | (go_at_call 14; refine (sideOf_any _ _).mono ?_; rintro e w' ⟨rfl, rfl⟩)
      | (go_at_call 15; refine (specSideOf_any _ _).mono ?_; rintro e w' ⟨rfl, rfl⟩)
      | (go_at_call 11; refine (sameSequences_any _ _ _ _ _ _ _ sA sB (Nat.le_refl _) (Nat.le_refl _) (by omega) (by omega) (fun j hj => by have := PA.out j hj; omega) (fun j hj => by have := PB.out j hj; omega)).mono ?_; rintro e w106 ⟨rfl, b106⟩; have qb106 : Below w105.heap.size w105 w106 := ⟨b106.os, b106.tape, b106.output, b106.size, b106.block⟩; replace R := R.on qb106; replace sT := (sT.below qb106 (Nat.le_refl _)).more qb106.size; replace sS := (sS.below qb106 (Nat.le_refl _)).more qb106.size; replace kS := kS.below qb106 kS.lt; replace sR := (sR.below qb106 (Nat.le_refl _)).more qb106.size; replace kR := kR.below qb106 kR.lt; replace sA := (sA.below qb106 (Nat.le_refl _)).more qb106.size; replace sB := (sB.below qb106 (Nat.le_refl _)).more qb106.size; replace HBW := below_on HBW qb106 (Nat.le_refl _); clear b106 qb106)
      | (go_at_call 16; refine (specSame_any _ _ _ _ _ _ _ sA sB (Nat.le_refl _) (Nat.le_refl _) (by omega) (by omega) (fun j hj => by have := PA.out j hj; omega) (fun j hj => by have := PB.out j hj; omega)).mono ?_; rintro e w107 ⟨rfl, b107⟩; have qb107 : Below w106.heap.size w106 w107 := ⟨b107.os, b107.tape, b107.output, b107.size, b107.block⟩; replace R := R.on qb107; replace sT := (sT.below qb107 (Nat.le_refl _)).more qb107.size; replace sS := (sS.below qb107 (Nat.le_refl _)).more qb107.size; replace kS := kS.below qb107 kS.lt; replace sR := (sR.below qb107 (Nat.le_refl _)).more qb107.size; replace kR := kR.below qb107 kR.lt; replace sA := (sA.below qb107 (Nat.le_refl _)).more qb107.size; replace sB := (sB.below qb107 (Nat.le_refl _)).more qb107.size; replace HBW := below_on HBW qb107 (Nat.le_refl _); clear b107 qb107)
      )
    obtain ⟨i1, hi1, hy0, hy1, hy2⟩ := info_parts info_bool
    have cS0 := kS.cell 0 (u := .int .i64 (paraF ts b)) rfl
    have cS1 := kS.cell 1 (u := .slice A2 (seqsV ts b).length c2) rfl
    clear sR sA sB kR
    by_cases hz : ¬ paraF ts b = 0
    · have f0 : (paraF ts b != 0) = true := by simp [hz]
      have EC : seqsV ts b = [] := by unfold seqsV; rw [if_neg hz]
      rw [EC] at cS1
      go_wp2
      go_ret
      exact ⟨rfl, HBW⟩
    · have hz := Decidable.not_not.1 hz
      have f0 : (paraF ts b != 0) = false := by simp [hz]
      go_wp2_with fail
      refine (specExplicitOf_val _ ts b w107 _ sT (Nat.le_refl _) (by omega) WT.out CT.out WB.out).mono ?_
      rintro e w200 ⟨⟨u1, u2, rfl, o1, o2, _⟩, b200⟩
      replace R := R.on b200
      replace sT := (sT.below b200 (Nat.le_refl _)).more b200.size
      replace sS := (sS.below b200 (Nat.le_refl _)).more b200.size
      replace kS := kS.below b200 kS.lt
      replace HBW := below_on HBW b200 (Nat.le_refl _)
      clear b200 cS0 cS1
      obtain ⟨A6, c6, rfl⟩ := o1.form
      obtain ⟨A7, c7, rfl⟩ := o2.form
      have sL := o1.sees
      clear o1 o2
      have PZ := paraF_zero hz
      have TL := (textF_zero PZ.1).1
      have HBb := Lib.hid (show 0 ≤ b ∧ b ≤ 1 from ⟨PZ.2.1, PZ.2.2.1⟩)
      have HZ := Lib.hid hz
      have EL := Lib.hid (show explL ts b = levN (classesN ts) b by unfold explL; rw [if_pos hz])
      have EQ := Lib.hid (show seqsV ts b = seqsN (classesN ts) b by unfold seqsV; rw [if_pos hz])
      obtain ⟨ls, hls⟩ : ∃ ls, Hid (ls = explL ts b) := ⟨_, Lib.hid rfl⟩
      obtain ⟨Q, hQ⟩ : ∃ Q, Hid (Q = seqsV ts b) := ⟨_, Lib.hid rfl⟩
      have NL := Lib.hid (show ls.length = ts.length by rw [hls.out, EL.out, levN_len, classesN_len])
      have QF := Lib.hid (show QFacts Q ls by rw [hQ.out, hls.out, EQ.out, EL.out]; exact qfacts HBb.out)
      rw [← hls.out] at sL ⊢
      rw [← hQ.out] at sS kS sl SP ⊢
      rw [HZ.out] at kS
      clear hz PZ f0 SP hls hQ EL EQ HBb HZ WT WB CT HB PA PB
      obtain ⟨n, hn⟩ : ∃ n, Hid (n = ts.length) := ⟨_, Lib.hid rfl⟩
      rw [← hn.out] at NL sl TL ⊢
      go_wp2_with (at_make; refine wpList_make_full _ rfl _ _ _ rfl w200.heap.size 4 i1 (.bool false) 1 Tryz.underlying44 hi1 hy0 hy1 _ _ _ _ n rfl rfl rfl rfl (by rw [hy2]; omega) (by unfold maxLen; omega) (Nat.le_refl _) ?_; intro w201 hown1 hg1)
      rw [show (Value.bool false).cells = #[.bool false] from rfl, Nat.mul_one, toList_madeCells_one] at hown1
      have bM : Below w200.heap.size w200 w201 := (Below.refl _ _).grown hg1 (Nat.le_refl _) (by simp)
      have RM0 := Lib.hid (show w201.ownsRow w200.heap.size 4 1 (.slice (some ⟨w200.heap.size, 0, none⟩) n n) n (bools (signs n (metL Q 0 0))) by rw [metL_zero, bools_nil]; exact hown1)
      have SL := Lib.hid (sL.below bM (Nat.le_refl _))
      have SS := Lib.hid (sS.below bM (Nat.le_refl _))
      have KS := Lib.hid (kS.below bM kS.lt)
      have HB1 := Lib.hid (below_on HBW bM (Nat.le_refl _))
      have kl := kS.lt
      have wls := HBW.size
      have gl : w200.heap.size < w201.heap.size := (hown1.lt _ rfl).2
      clear hown1 hg1 R sT kS sS sL bM HBW
      go_loop [12, 13] (fun kc i => ∃ k : Nat, k ≤ n ∧ i = .int .i64 k ∧ kc = .int .i64 ((keptN ls k).length : Nat)) (fun _ i => n - (intOf i).toNat)
      case atStart => exact ⟨0, by omega, rfl, rfl⟩
      case round =>
        obtain ⟨k, hk, rfl, rfl⟩ := hrel
        by_cases hlt : k < n
        · obtain ⟨AL, cL', eL, rL⟩ := SL.out
          injection eL with eL1 eL2 eL3
          clear eL2
          subst eL1; subst eL3
          obtain ⟨bL, offL, rfl, hbL, hcL⟩ := rL.int (by rw [NL.out]; omega)
          have hc0 := hcL k (by rw [NL.out]; exact hlt)
          have KC := Lib.hid (kept_count ls k)
          have kb := keptN_len ls k
          obtain ⟨q, hq⟩ : ∃ q, Hid (nth ls k = q) := ⟨_, Lib.hid rfl⟩
          rw [hq.out] at hc0 KC
          have llt : (k : Int) < (ls.length : Int) := by rw [NL.out]; omega
          clear hcL rL
          by_cases h1 : q = -1
          · have e1 : (q != -1) = false := by simp [h1]
            have K2 := Lib.hid (show (keptN ls (k + 1)).length = (keptN ls k).length by have := KC.out; rw [if_pos h1] at this; omega)
            clear h1
            go_wp2
            go_round
            case rel => exact ⟨k + 1, by omega, by go_num, by rw [K2.out]⟩
            case measure => first | omega | (simp [intOf]; omega)
          · have e1 : (q != -1) = true := by simpa using h1
            have K2 := Lib.hid (show ((keptN ls (k + 1)).length : Int) = ((keptN ls k).length : Int) + 1 by have := KC.out; rw [if_neg h1] at this; exact this)
            clear h1
            go_wp2
            go_round
            case rel => exact ⟨k + 1, by omega, by go_num, by rw [K2.out]⟩
            case measure => first | omega | (simp [intOf]; omega)
        · have hkn : k = n := by omega
          subst hkn
          have lge : ¬ ((k : Int) < (ls.length : Int)) := by rw [NL.out]; omega
          have KA := Lib.hid (show (keptN ls k).length = ((Q.map (·.places)).flatten).length by rw [QF.out.all, NL.out])
          have kb := keptN_len ls k
          obtain ⟨K, hK⟩ : ∃ K, Hid (K = (keptN ls k).length) := ⟨_, Lib.hid rfl⟩
          rw [← hK.out] at KA kb ⊢
          have ML := Lib.hid (fun i p => show (metL Q i p).length ≤ K by have := QF.out.len i p; rw [NL.out, ← hK.out] at this; exact this)
          clear hK hlt
          go_wp2
          go_loopw [12, 14] (fun kc i wr => ∃ j : Nat, j ≤ Q.length ∧ i = .int .i64 j ∧ kc = .int .i64 ((K : Int) - ((metL Q j 0).length : Int)) ∧ Hid (wr.ownsRow w200.heap.size 4 1 (.slice (some ⟨w200.heap.size, 0, none⟩) k k) k (bools (signs k (metL Q j 0)))) ∧ Hid (Below w200.heap.size w201 wr)) (fun _ i _ => Q.length - (intOf i).toNat)
          case atStart => exact ⟨0, by omega, rfl, by simp [metL_zero], RM0, Lib.hid (Below.refl _ _)⟩
          case round =>
            clear RM0 lge
            obtain ⟨j, hj, rfl, rfl, hm, hbr⟩ := hrel
            generalize wr = wo at *
            clear wr
            by_cases hjl : j < Q.length
            · obtain ⟨us, sq⟩ := SS.out.below hbr.out (Nat.le_refl _)
              obtain ⟨bS, oS, cS, u, e1, hbS, hc0, su, hc1, hc2, hc3⟩ := sq.at_ j hjl
              cases e1
              have hk0 := (KS.out.below hbr.out kl).cell 0 (u := .int .i64 0) rfl
              have hk1 := (KS.out.below hbr.out kl).cell 1 (u := .slice (some ⟨bS, oS, none⟩) Q.length c2) rfl
              have SD := Lib.hid (QF.out.sides j hjl)
              have PLC := Lib.hid (QF.out.place j hjl)
              have RIS := Lib.hid (QF.out.rise j hjl)
              have FRE := Lib.hid (metL_fresh Q QF.out.once j)
              have STE := Lib.hid (metL_step Q j)
              have NXT := Lib.hid (metL_next Q j hjl)
              have pn := QF.out.places j hjl
              rw [NL.out] at pn
              obtain ⟨P, hP⟩ : ∃ P, Hid ((nthQ Q j).places = P) := ⟨_, Lib.hid rfl⟩
              obtain ⟨lv, hlv⟩ : ∃ lv, Hid ((nthQ Q j).level = lv) := ⟨_, Lib.hid rfl⟩
              obtain ⟨so, hso⟩ : ∃ so, Hid ((nthQ Q j).sos = so) := ⟨_, Lib.hid rfl⟩
              obtain ⟨eo, heo⟩ : ∃ eo, Hid ((nthQ Q j).eos = eo) := ⟨_, Lib.hid rfl⟩
              rw [hP.out] at su PLC RIS FRE STE NXT pn
              rw [hlv.out] at hc1 PLC
              rw [hso.out] at hc2 SD
              rw [heo.out] at hc3 SD
              have hc1' : wo.cell? ⟨bS, oS + j * 4 + 1, none⟩ = some (.int .i64 lv) := hc1
              have hc2' : wo.cell? ⟨bS, oS + j * 4 + 2, none⟩ = some (.int .i64 so) := hc2
              have hc3' : wo.cell? ⟨bS, oS + j * 4 + 3, none⟩ = some (.int .i64 eo) := hc3
              obtain ⟨Au, cu, rfl, ru⟩ := su
              have RU := Lib.hid ru
              have LO := Lib.hid (show w200.heap.size ≤ wo.heap.size by have := hbr.out.size; omega)
              have MJ := ML.out j 0
              clear hc1 hc2 hc3 sq ru
              go_upto_region 24 with fail
              go_cut [144] from 115 to 198 (fun s144 wc => s144 = .bool false ∧ wc = wo.alloc (.cells #[.slice Au P.length cu, .int .i64 lv, .int .i64 so, .int .i64 eo] 46))
              case first =>
                obtain ⟨s1 | s1, s2 | s2⟩ := SD.out
                all_goals
                  subst s1
                  subst s2
                  go_wp2_with fail
                  go_meet
                  exact ⟨rfl, rfl⟩
              case rest =>
                obtain ⟨rfl, rfl⟩ := hcut
                have B0q := Lib.hid (hbr.out.alloc LO.out (.cells #[.slice Au P.length cu, .int .i64 lv, .int .i64 so, .int .i64 eo] 46))
                have M0q := Lib.hid (show (wo.alloc (.cells #[.slice Au P.length cu, .int .i64 lv, .int .i64 so, .int .i64 eo] 46)).ownsRow w200.heap.size 4 1 (.slice (some ⟨w200.heap.size, 0, none⟩) k k) k (bools (signs k (metL Q j 0))) from hm.out.alloc _)
                have RUq := Lib.hid (RU.out.below ((Below.refl w200.heap.size wo).alloc LO.out (.cells #[.slice Au P.length cu, .int .i64 lv, .int .i64 so, .int .i64 eo] 46)) (Nat.le_refl _))
                have X0q := Lib.hid (Blk.new wo 46 #[.slice Au P.length cu, .int .i64 lv, .int .i64 so, .int .i64 eo])
                have gw : w200.heap.size < wo.heap.size := by have := hbr.out.size; omega
                clear hm hc0 hc1' hc2' hc3' hk0 hk1 MJ SD hbr
                go_wp2
                generalize wo.alloc (.cells #[.slice Au P.length cu, .int .i64 lv, .int .i64 so, .int .i64 eo] 46) = wq at *
                go_loopw [12, 16] (fun kc i wr => ∃ p : Nat, p ≤ P.length ∧ i = .int .i64 p ∧ kc = .int .i64 ((K : Int) - ((metL Q j p).length : Int)) ∧ Hid (wr.ownsRow w200.heap.size 4 1 (.slice (some ⟨w200.heap.size, 0, none⟩) k k) k (bools (signs k (metL Q j p)))) ∧ Hid (Below w200.heap.size wq wr) ∧ Hid (Blk wr wo.heap.size 46 #[.slice Au P.length cu, .int .i64 lv, .int .i64 so, .int .i64 eo])) (fun _ i _ => P.length - (intOf i).toNat)
                case atStart => exact ⟨0, by omega, rfl, rfl, M0q, Lib.hid (Below.refl _ _), X0q⟩
                case round =>
                  clear M0q X0q
                  obtain ⟨p, hp, rfl, rfl, hm, hbr, hx⟩ := hrel
                  have xq0 := hx.out.cell 0 (u := .slice Au P.length cu) rfl
                  have xq1 := hx.out.cell 1 (u := .int .i64 lv) rfl
                  have MP := ML.out j p
                  obtain ⟨kc, hkc⟩ : ∃ kc, Hid (kc = (K : Int) - ((metL Q j p).length : Int)) := ⟨_, Lib.hid rfl⟩
                  have kcb : 0 ≤ kc ∧ kc ≤ 600 := by have := hkc.out; have := NL.out; omega
                  obtain ⟨kc0, kc1⟩ := kcb
                  rw [← hkc.out]
                  by_cases hpl : p < P.length
                  · obtain ⟨x, hxp, hxl, hxv⟩ := PLC.out p hpl
                    have xk : x < k := by rw [← NL.out]; exact hxl
                    have FR := FRE.out p hpl
                    have ST := STE.out p hpl
                    rw [hxp] at FR ST
                    have hmc := (hm.out.cellAt x (by rw [Nat.mul_one]; exact xk)).trans (bools_get k (metL Q j p) x xk)
                    rw [decide_eq_false FR] at hmc
                    obtain ⟨bu, ou, rfl, hbu, hcu⟩ := (RUq.out.below hbr.out (Nat.le_refl _)).int (by omega)
                    have hcp := hcu p hpl
                    rw [hxp] at hcp
                    have WR := Lib.hid (B0q.out.trans hbr.out)
                    obtain ⟨AL, cL', eL, rL⟩ := SL.out.below WR.out (Nat.le_refl _)
                    injection eL with eL1 eL2 eL3
                    clear eL2
                    subst eL1; subst eL3
                    obtain ⟨bL, offL, rfl, hbL, hcL⟩ := rL.int (by rw [NL.out]; omega)
                    have hcl := hcL x hxl
                    rw [hxv] at hcl
                    have wsz : w200.heap.size ≤ wr.heap.size := by have := WR.out.size; omega
                    have xi0 : (0 : Int) ≤ (x : Int) := by omega
                    have g1 : decide ((x : Int) < 0) = false := decide_eq_false (by omega)
                    have g2 : decide ((k : Int) ≤ (x : Int)) = false := decide_eq_false (by omega)
                    have g3 : (lv != lv) = false := by simp
                    have g4 : decide (k ≤ x) = false := decide_eq_false (by omega)
                    have g5 : decide (x < 0) = false := decide_eq_false (by omega)
                    have i1' : (x : Int) < (k : Int) := by omega
                    have i2 : (x : Int) < (ls.length : Int) := by rw [NL.out]; omega
                    have SG := Lib.hid (show (bools (signs k (metL Q j p))).set x (.bool true) = bools (signs k (metL Q j (p + 1))) by rw [bools_set, signs_set, ST])
                    have KC := Lib.hid (show kc - 1 = (K : Int) - ((metL Q j (p + 1)).length : Int) by rw [ST, List.length_append]; have := hkc.out; simp; omega)
                    have hmr := Lib.hid hm.out
                    clear FR ST hcL rL hm
                    by_cases hp0 : p = 0
                    · subst hp0
                      rw [Nat.add_zero] at hcp
                      have z0 : ((0 : Nat) : Int) = 0 := rfl
                      rw [z0]
                      go_wp2_with fail
                      go_quiet (fail)
                      have hmq : (wr.drewN nq).ownsRow w200.heap.size 4 1 (.slice (some ⟨w200.heap.size, 0, none⟩) k k) k (bools (signs k (metL Q j 0))) := hmr.out
                      have HMQ := Lib.hid hmq
                      have xq2 := hx
                      clear hmq hmr hmc hcp hcl xq0 xq1
                      go_wp2_with (refine wpList_put rfl _ _ _ rfl i1 hi1 hy1 x (.bool true) rfl rfl rfl HMQ.out xk ?_; intro w5 o5 g5)
                      have M5 := Lib.hid (show w5.ownsRow w200.heap.size 4 1 (.slice (some ⟨w200.heap.size, 0, none⟩) k k) k (bools (signs k (metL Q j (0 + 1)))) by rw [← SG.out]; exact o5)
                      have B5 := Lib.hid ((below_drewN hbr.out nq).grown g5 (by show _ ≤ wr.heap.size; exact wsz) (fun b hb => by injection hb with hb; omega))
                      have X5 := Lib.hid (show Blk w5 wo.heap.size 46 #[.slice (some ⟨bu, ou, none⟩) P.length cu, .int .i64 lv, .int .i64 so, .int .i64 eo] from (g5.block wo.heap.size hx.out.lt (by intro e; injection e with e; omega)).trans hx.out)
                      clear o5 g5 HMQ
                      go_roundw
                      case rel => exact ⟨0 + 1, by omega, by go_num, by rw [KC.out], M5, B5, X5⟩
                      case measure => first | omega | (simp [intOf]; omega)
                    · obtain ⟨p', rfl⟩ : ∃ p', p = p' + 1 := ⟨p - 1, by omega⟩
                      obtain ⟨y, hyp, hyl, _⟩ := PLC.out p' (by omega)
                      have hcy := hcu p' (by omega)
                      rw [hyp] at hcy
                      have yx : y < x := by
                        have := rise_lt RIS.out p' (p' + 1) (by omega) hpl
                        rw [hyp, hxp] at this
                        omega
                      have g6 : decide ((x : Int) ≤ (y : Int)) = false := decide_eq_false (by omega)
                      have g7 : decide (x ≤ y) = false := decide_eq_false (by omega)
                      have g8 : decide ((0 : Int) < (p' : Int) + 1) = true := decide_eq_true (by omega)
                      have g9 : (0 : Int) ≤ (p' : Int) := by omega
                      have g10 : (p' : Int) < (P.length : Int) := by omega
                      have w6 : p' < 600 := by omega
                      clear hp0 hyp hyl
                      go_wp2_with fail
                      go_quiet (fail)
                      have hmq : (wr.drewN nq).ownsRow w200.heap.size 4 1 (.slice (some ⟨w200.heap.size, 0, none⟩) k k) k (bools (signs k (metL Q j (p' + 1)))) := hmr.out
                      have HMQ := Lib.hid hmq
                      have xq2 := hx
                      clear hmq hmr hmc hcp hcl xq0 xq1
                      go_wp2_with (refine wpList_put rfl _ _ _ rfl i1 hi1 hy1 x (.bool true) rfl rfl rfl HMQ.out xk ?_; intro w5 o5 g5)
                      have M5 := Lib.hid (show w5.ownsRow w200.heap.size 4 1 (.slice (some ⟨w200.heap.size, 0, none⟩) k k) k (bools (signs k (metL Q j ((p' + 1) + 1)))) by rw [← SG.out]; exact o5)
                      have B5 := Lib.hid ((below_drewN hbr.out nq).grown g5 (by show _ ≤ wr.heap.size; exact wsz) (fun b hb => by injection hb with hb; omega))
                      have X5 := Lib.hid (show Blk w5 wo.heap.size 46 #[.slice (some ⟨bu, ou, none⟩) P.length cu, .int .i64 lv, .int .i64 so, .int .i64 eo] from (g5.block wo.heap.size hx.out.lt (by intro e; injection e with e; omega)).trans hx.out)
                      clear o5 g5 HMQ
                      go_roundw
                      case rel => exact ⟨(p' + 1) + 1, by omega, by go_num, by rw [KC.out], M5, B5, X5⟩
                      case measure => first | omega | (simp [intOf]; omega)
                  · have pe : p = P.length := by omega
                    subst pe
                    have BE := Lib.hid (B0q.out.trans hbr.out)
                    have NX := NXT.out
                    have ME := Lib.hid (show wr.ownsRow w200.heap.size 4 1 (.slice (some ⟨w200.heap.size, 0, none⟩) k k) k (bools (signs k (metL Q (j + 1) 0))) by rw [NX]; exact hm.out)
                    have KE := Lib.hid (show kc = (K : Int) - ((metL Q (j + 1) 0).length : Int) by rw [NX]; exact hkc.out)
                    clear hm NX
                    go_wp2
                    go_roundw
                    case rel => exact ⟨j + 1, by omega, by go_num, by rw [KE.out], ME, BE⟩
                    case measure => first | omega | (simp [intOf]; omega)
            · have je : j = Q.length := by omega
              subst je
              have hk1 := (KS.out.below hbr.out kl).cell 1 (u := .slice A2 Q.length c2) rfl
              have KZ := Lib.hid (show (K : Int) - ((metL Q Q.length 0).length : Int) = 0 by rw [metL_end Q _ (Nat.le_refl _), ← KA.out]; omega)
              rw [KZ.out]
              have HE := Lib.hid (HB1.out.trans (hbr.out.mono wls))
              clear hm
              go_wp2
              go_ret
              exact ⟨rfl, HE.out⟩
end Go.Proofs.YtmcmfklkljehiaaGreat.fnSequences
