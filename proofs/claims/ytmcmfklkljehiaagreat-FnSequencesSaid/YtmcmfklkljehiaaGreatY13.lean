/- Chapter 3: the model's matches and base level. -/
import Derived.Test.YtmcmfklkljehiaaGreatY10
import Derived.Test.YtmcmfklkljehiaaGreatY04
import Derived.Test.YtmcmfklkljehiaaGreatY12
import Derived.Test.YtmcmfklkljehiaaGreatY02
import Derived.Test.YtmcmfklkljehiaaGreatY07
import Derived.WalkSmall
namespace Go.Proofs.YtmcmfklkljehiaaGreat
open Go.RowKit Go.Maps

def textF (zs : List Int) : Int := if 600 < zs.length then 2 else if zs.all chrB then 0 else 3
theorem textF_many {zs : List Int} (h : 600 < zs.length) : textF zs = 2 := by unfold textF; rw [if_pos h]
theorem textF_no {zs : List Int} (h : ¬ 600 < zs.length) (h' : zs.all chrB = false) : textF zs = 3 := by unfold textF; rw [if_neg h, h']; rfl
theorem textF_ok {zs : List Int} (h : ¬ 600 < zs.length) (h' : zs.all chrB = true) : textF zs = 0 := by unfold textF; rw [if_neg h, h']; rfl
theorem textF_zero {zs : List Int} (h : textF zs = 0) : zs.length ≤ 600 ∧ zs.all chrB = true := by
  unfold textF at h
  split at h
  · omega
  · split at h
    · exact ⟨by omega, by assumption⟩
    · omega
theorem encode_zero {zs : List Int} (h : textF zs = 0) : encode zs = (0, encs zs) := by
  obtain ⟨h1, h2⟩ := textF_zero h
  unfold encode; rw [if_neg (by omega), h2]; rfl
theorem textF_range (zs : List Int) : 0 ≤ textF zs ∧ textF zs ≤ 3 := by
  unfold textF
  repeat' split
  all_goals omega

set_option maxRecDepth 100000 in
set_option maxHeartbeats 400000 in
theorem specTextFault_any (A : Option Addr) (zs : List Int) (c : Nat) (w : World) (B : Nat) (h1 : Rd w B A (nums .i64 zs)) (hl : zs.length < 1000000000) :
    Calls Tryz.prog 53 #[.slice A zs.length c] w fun e w' => e = .returned (.int .i64 (textF zs)) ∧ w = w' := by
  by_cases h6 : 600 < zs.length
  · have e := Lib.hid (textF_many h6)
    go_enter Tryz.func53, Tryz.ntmps53
    go_wp2
    go_ret
    exact ⟨rint e.out.symm, rfl⟩
  · have H1 := Lib.hid h1
    clear h1
    go_enter Tryz.func53, Tryz.ntmps53
    go_wp2
    go_loop [3] (fun i => ∃ k : Nat, k ≤ zs.length ∧ i = .int .i64 k ∧ Hid ((zs.take k).all chrB = true)) (fun i => zs.length - (intOf i).toNat)
    case atStart => exact ⟨0, by omega, rfl, rfl⟩
    case round =>
      obtain ⟨k, hk, rfl, hs⟩ := hrel
      by_cases hlt : k < zs.length
      · obtain ⟨b, off, rfl, hb, hc⟩ := H1.out.int (by omega)
        have hc0 := hc k hlt
        clear hc
        obtain ⟨z, hz⟩ : ∃ z, Hid (z = nth zs k) := ⟨_, Lib.hid rfl⟩
        rw [← hz.out] at hc0
        by_cases hp : chrB z = true
        · have hp' : Hid (decide ((0 ≤ z ∧ z ≤ 55295) ∨ (57344 ≤ z ∧ z ≤ 1114111)) = true) := Lib.hid hp
          have HP := Lib.hid hp
          clear hp
          go_wp2_with (go_at_call 82; refine (specIsChar_any _ _).mono ?_; rintro e w' ⟨rfl, rfl⟩; rw [hp'.out])
          go_round
          case rel => exact ⟨k + 1, by omega, by go_num, Lib.hid (by rw [all_step chrB zs k hlt (by rw [← hz.out]; exact HP.out)]; exact hs.out)⟩
          case measure => first | omega | (simp [intOf]; omega)
        · have hp' : Hid (decide ((0 ≤ z ∧ z ≤ 55295) ∨ (57344 ≤ z ∧ z ≤ 1114111)) = false) := Lib.hid (by simpa [chrB] using hp)
          have E := Lib.hid (textF_no h6 (all_false chrB zs k hlt (by rw [← hz.out]; simpa using hp)))
          clear hp
          go_wp2_with (go_at_call 82; refine (specIsChar_any _ _).mono ?_; rintro e w' ⟨rfl, rfl⟩; rw [hp'.out])
          go_ret
          exact ⟨rint E.out.symm, rfl⟩
      · have E := Lib.hid (textF_ok h6 (by have := hs.out; rwa [List.take_of_length_le (by omega)] at this))
        go_wp2
        go_ret
        exact ⟨rint E.out.symm, rfl⟩

set_option maxRecDepth 100000 in
set_option maxHeartbeats 400000 in
theorem textFault_any (A : Option Addr) (zs : List Int) (c : Nat) (w : World) (B : Nat) (h1 : Rd w B A (nums .i64 zs)) (hB : B ≤ w.heap.size) (hl : zs.length < 1000000000) :
    Calls Tryz.prog 69 #[.slice A zs.length c] w fun e w' => e = .returned (.int .i64 (textF zs)) ∧ Below w.heap.size w w' := by
  by_cases h6 : 600 < zs.length
  · have e := Lib.hid (textF_many h6)
    go_enter Tryz.func69, Tryz.ntmps69
    go_wp2
    go_ret
    exact ⟨rint e.out.symm, Below.refl _ _⟩
  · have H1 := Lib.hid h1
    clear h1
    go_enter Tryz.func69, Tryz.ntmps69
    go_wp2
    go_loopw [10] (fun i wr => ∃ k : Nat, k ≤ zs.length ∧ i = .int .i64 k ∧ Hid ((zs.take k).all chrB = true) ∧ Below w.heap.size w wr) (fun i _ => zs.length - (intOf i).toNat)
    case atStart => exact ⟨0, by omega, rfl, rfl, Below.refl _ _⟩
    case round =>
      obtain ⟨k, hk, rfl, hs, hbr⟩ := hrel
      by_cases hlt : k < zs.length
      · obtain ⟨b, off, rfl, hb, hc⟩ := (H1.out.below hbr hB).int (by omega)
        have hc0 := hc k hlt
        clear hc
        obtain ⟨z, hz⟩ : ∃ z, Hid (z = nth zs k) := ⟨_, Lib.hid rfl⟩
        rw [← hz.out] at hc0
        by_cases hp : chrB z = true
        · have hp' : Hid (decide ((0 ≤ z ∧ z ≤ 55295) ∨ (57344 ≤ z ∧ z ≤ 1114111)) = true) := Lib.hid hp
          have HP := Lib.hid hp
          clear hp
          go_wp2_with fail
          refine (isChar_any _ _).mono ?_
          rintro e w1 ⟨rfl, b1⟩
          rw [hp'.out]
          have hb1 := below_on hbr b1 (Nat.le_refl _)
          clear hbr b1
          go_wp2
          go_roundw
          case rel => exact ⟨k + 1, by omega, by go_num, Lib.hid (by rw [all_step chrB zs k hlt (by rw [← hz.out]; exact HP.out)]; exact hs.out), hb1⟩
          case measure => first | omega | (simp [intOf]; omega)
        · have hp' : Hid (decide ((0 ≤ z ∧ z ≤ 55295) ∨ (57344 ≤ z ∧ z ≤ 1114111)) = false) := Lib.hid (by simpa [chrB] using hp)
          have E := Lib.hid (textF_no h6 (all_false chrB zs k hlt (by rw [← hz.out]; simpa using hp)))
          clear hp
          go_wp2_with fail
          refine (isChar_any _ _).mono ?_
          rintro e w1 ⟨rfl, b1⟩
          rw [hp'.out]
          have hb1 := below_on hbr b1 (Nat.le_refl _)
          clear hbr b1
          go_wp2
          go_ret
          exact ⟨rint E.out.symm, hb1⟩
      · have E := Lib.hid (textF_ok h6 (by have := hs.out; rwa [List.take_of_length_le (by omega)] at this))
        go_wp2
        go_ret
        exact ⟨rint E.out.symm, hbr⟩

theorem specTextFault_val (v : Value) (zs : List Int) (w : World) (B : Nat) (h : Sees w B .i64 v zs) (_ : B ≤ w.heap.size) (l : zs.length < 1000000000) (_ : ∀ n ∈ zs, (Lit.int .i64 n).wf = true) :
    Calls Tryz.prog 53 #[v] w fun e w' => e = .returned (.int .i64 (textF zs)) ∧ Below w.heap.size w w' := by
  obtain ⟨A, c, rfl, hr⟩ := h
  exact (specTextFault_any A zs c w B hr l).mono fun e w' ⟨h1, h2⟩ => ⟨h1, by subst h2; exact Below.refl _ _⟩
theorem textFault_val (v : Value) (zs : List Int) (w : World) (B : Nat) (h : Sees w B .i64 v zs) (hB : B ≤ w.heap.size) (l : zs.length < 1000000000) (_ : ∀ n ∈ zs, (Lit.int .i64 n).wf = true) :
    Calls Tryz.prog 69 #[v] w fun e w' => e = .returned (.int .i64 (textF zs)) ∧ Below w.heap.size w w' := by
  obtain ⟨A, c, rfl, hr⟩ := h
  exact textFault_any A zs c w B hr hB l

def opB (k : Int) : Bool := decide (19 ≤ k ∧ k ≤ 21)
theorem opensIsolate_any (k : Int) (w : World) :
    Calls Tryz.prog 79 #[.int .i64 k] w fun e w' => e = .returned (.bool (opB k)) ∧ Below w.heap.size w w' := by
  have b1 := (Below.refl w.heap.size w).alloc (Nat.le_refl _) (.cells #[.int .i64 19, .int .i64 21] 2)
  go_enter Tryz.func79, Tryz.ntmps79
  go_wp2_with (go_at_call 47; (with_reducible refine (within_lit2 _ _ _ _ _ _ (by simp)).mono ?_); rintro e w' ⟨rfl, rfl⟩)
  go_ret
  refine ⟨rbool ?_, b1⟩
  simp only [spans, Bool.or_false, opB]
  rw [Bool.eq_iff_iff]; simp
theorem l3Opens_any (k : Int) (w : World) :
    Calls Tryz.prog 63 #[.int .i64 k] w fun e w' => e = .returned (.bool (opB k)) ∧ w = w' := by
  go_enter Tryz.func63, Tryz.ntmps63
  go_wp2_with (go_at_call 54; refine (l1In_any _ _ _ _).mono ?_; rintro e w' ⟨rfl, rfl⟩)
  go_ret
  exact ⟨rbool (by simp [opB]), rfl⟩

theorem field_bytes (x : Value) (A : Option Addr) (n c : Nat) (w : World) : (Instr.field 113 (.agg #[x, .slice A n c]) 1).run Tryz.prog w = .ok (.slice A n c) w := by
  simp [Instr.field, go_sem, asAgg]
attribute [local go_sem] field_bytes

set_option maxRecDepth 100000 in
set_option maxHeartbeats 400000 in
theorem stringOf_any (A : Option Addr) (zs : List Int) (c : Nat) (w : World) (B : Nat) (h1 : Rd w B A (nums .i64 zs)) (hB : B ≤ w.heap.size) (hz : textF zs = 0) :
    Calls Tryz.prog 45 #[.slice A zs.length c] w fun e w' => e = .returned (.string (bstr (encs zs))) ∧ Below w.heap.size w w' := by
  have hl := (textF_zero hz).1
  have EZ := Lib.hid (encode_zero hz)
  have HB := Lib.hid (encs_bytes zs (textF_zero hz).2)
  go_enter Tryz.func45, Tryz.ntmps45
  go_wp2_with fail
  refine (encodeText_any A zs c w (h1.more hB) (by omega)).mono ?_
  rintro e w1 ⟨⟨v, rfl, o1⟩, b1⟩
  rw [EZ.out] at o1 ⊢
  obtain ⟨A1, c1, rfl⟩ := o1.form
  have hcv := run_bstr (P := Tryz.prog) w1 22 9 5 A1 c1 (encs zs) Tryz.underlying22 Tryz.underlying5 Tryz.underlying9 _ (Rd.of o1.1) HB.out
  clear o1 h1
  go_wp2
  go_ret
  exact ⟨rfl, b1⟩

/-- an iterator has gone on; nothing else has turned -/
structure Went (w : World) (g : Nat) (o : Obj) (w' : World) : Prop where
  it : w'.heap[g]? = some o
  other : ∀ i, i ≠ g → w'.heap[i]? = w.heap[i]?
  size : w'.heap.size = w.heap.size
  os : w'.os = w.os
  tape : w'.tape = w.tape
  output : w'.output = w.output
theorem Went.below {w w' : World} {g B : Nat} {o : Obj} (h : Went w g o w') (hB : B ≤ g) : Below B w w' := ⟨h.os, h.tape, h.output, by rw [h.size]; exact Nat.le_refl _, fun i hi => h.other i (by omega)⟩
theorem Went.own {w w' : World} {g : Nat} {o : Obj} {base n size : Nat} {e : TypeId} {v : Value} {xs : List Value} (h : Went w g o w') (hr : w.ownsRow base e size v n xs) (hv : ∀ b, v.ownBlock = some b → b ≠ g) : w'.ownsRow base e size v n xs :=
  ⟨hr.1, by
    rcases hr.2 with hn | ⟨b, cap, cur, rfl, h1, h2, rest⟩
    · exact .inl hn
    · exact .inr ⟨b, cap, cur, rfl, h1, by rw [h.other b (hv b rfl)]; exact h2, rest⟩⟩
theorem wpList_next_text {P : Program} {w : World} {ops : Array Oper} {rest : List Oper} {o : Oper} {a : Act} {Q : Exit → Act → World → Prop} (hgd : o.guard = none) (it : Operand) (hop : o.op = Op.next it true)
    (g : Nat) (zs : List Int) (hz : zs.all chrB = true) (k : Nat) (hit : a.eval it = .pointer (some ⟨g, 0, none⟩)) (hk : w.heap[g]? = some (.stringIter (bstr (encs zs)) (encAt zs k)))
    (hDone : zs.length ≤ k → wpList P ops Q rest (a.put o.dst (.tuple #[.bool false])) w)
    (hMore : k < zs.length → ∀ w', Went w g (.stringIter (bstr (encs zs)) (encAt zs (k + 1))) w' → wpList P ops Q rest (a.put o.dst (.tuple #[.bool true, .int .i64 (encAt zs k), .int .i32 (nth zs k)])) w') :
    wpList P ops Q (o :: rest) a w := by
  refine wpList_plain hgd fun K' hK' => ?_
  unfold Oper.wp
  by_cases h : k < zs.length
  · have hrun := next_text (P := P) w g zs hz k h o.type hk
    simp [execOp, hop, hit, hrun, Result.andThen]
    exact hK' _ _ (hMore h _ ⟨Lib.iterAt_heap _ _ _ _ _ hk, fun i hi => Lib.iterAt_other _ _ _ _ _ hi, Lib.iterAt_size _ _ _ _, rfl, rfl, rfl⟩)
  · have hrun := next_end (P := P) w g zs k (by omega) o.type hk
    simp [execOp, hop, hit, hrun, Result.andThen]
    exact hK' _ _ (hDone (by omega))

theorem Mp.below {w w' : World} {b B : Nat} {L : List Ent} {S : Nat → Bool} {es : Array MapEntry} {clock : Nat} (h : Mp w b L S es clock) (hb : Below B w w') (hB : b < B) : Mp w' b L S es clock :=
  ⟨(hb.block b hB).trans h.heap, h.born, h.nodup, h.mem, h.all⟩
theorem iter_at {w : World} {g : Nat} {s : ByteArray} {p : Nat} (h : w.heap[g]? = some (.stringIter s p)) : w.iterPos g = p := by simp [World.iterPos, h]
theorem iter_below {w w' : World} {g B : Nat} {s : ByteArray} {p : Nat} (h : w.heap[g]? = some (.stringIter s p)) (hb : Below B w w') (hB : g < B) : w'.heap[g]? = some (.stringIter s p) := (hb.block g hB).trans h
theorem at_lt {w : World} {g : Nat} {o : Obj} (h : w.heap[g]? = some o) : g < w.heap.size := (Array.getElem?_eq_some_iff.1 h).1

def classesN (zs : List Int) : List Int := zs.map classN
theorem classesN_len (zs : List Int) : (classesN zs).length = zs.length := by simp [classesN]
theorem classesN_nth (zs : List Int) (k : Nat) (h : k < zs.length) : nth (classesN zs) k = classN (nth zs k) := by simp [classesN, nth, List.getElem?_eq_getElem h]
theorem classesN_step (zs : List Int) (k : Nat) (h : k < zs.length) : classesN (zs.take (k + 1)) = classesN (zs.take k) ++ [classN (nth zs k)] := by rw [take_nth zs k h]; simp [classesN]
theorem own_app1 {w' : World} {B : Nat} {t : TypeId} {v' : Value} {n : Nat} {a : List Int} {z : Int} {kd : IntKind} (h : w'.ownsRow B t 1 v' (n + 1) (nums kd a ++ [.int kd z])) (hn : n = a.length) :
    w'.ownsRow B t 1 v' (a ++ [z]).length (nums kd (a ++ [z])) := by subst hn; rw [nums_app, List.length_append]; exact h

set_option maxRecDepth 100000 in
set_option maxHeartbeats 1000000 in
theorem classesOf_any (A : Option Addr) (zs : List Int) (c : Nat) (w : World) (B : Nat) (h1 : Rd w B A (nums .i64 zs)) (hB : B ≤ w.heap.size) (hz : textF zs = 0) :
    Calls Tryz.prog 22 #[.slice A zs.length c] w fun e w' => (∃ v, e = .returned v ∧ Own w' w.heap.size w'.heap.size 2 .i64 v (classesN zs)) ∧ Below w.heap.size w w' := by
  obtain ⟨i0, hi, hz0, hz1, hz2⟩ := info_parts info_int64
  have hl := (textF_zero hz).1
  have HC := Lib.hid (textF_zero hz).2
  have HZ := Lib.hid hz
  have H1 := Lib.hid h1
  clear hz h1
  go_enter Tryz.func22, Tryz.ntmps22
  go_wp2_with fail
  refine (classRules_any _).mono ?_
  rintro e w1 ⟨⟨rfl, es, clock, hm⟩, b1⟩
  have s1 := hm.lt
  go_wp2_with fail
  refine (stringOf_any A zs c w1 B (H1.out.below b1 hB) (by have := b1.size; omega) HZ.out).mono ?_
  rintro e w2 ⟨rfl, b2⟩
  have s2 := b2.size
  have HM := Lib.hid (hm.below b2 s1)
  have b3 := below_on b1 b2 (Nat.le_refl _)
  have B3 := Lib.hid (b3.alloc b3.size (.stringIter (bstr (encs zs)) 0))
  have HM2 := Lib.hid (show Mp (w2.alloc (.stringIter (bstr (encs zs)) 0)) _ _ _ _ _ from HM.out.below ((Below.refl _ _).alloc (Nat.le_refl _) _) HM.out.lt)
  have HI := Lib.hid (show (w2.alloc (.stringIter (bstr (encs zs)) 0)).heap[w2.heap.size]? = some (.stringIter (bstr (encs zs)) (encAt zs 0)) by rw [encAt_zero]; exact heap_alloc_new w2 _)
  clear b1 b2 b3 hm
  go_wp2
  generalize hX : World.iter w2 (bstr (encs zs)) 0 = X at *
  have eX : X = w2.alloc (.stringIter (bstr (encs zs)) 0) := by rw [← hX]; rfl
  rw [← eX] at B3 HM2 HI
  have szX : X.heap.size = w2.heap.size + 1 := by rw [eX]; simp
  clear eX hX HM
  go_loopw [3] (fun v wr => ∃ k : Nat, k ≤ zs.length ∧ Hid (wr.ownsRow (w2.heap.size + 1) 2 1 v (classesN (zs.take k)).length (nums .i64 (classesN (zs.take k)))) ∧
    Hid (wr.heap[w2.heap.size]? = some (.stringIter (bstr (encs zs)) (encAt zs k))) ∧ Hid (Mp wr w.heap.size (rulesL.map rEnt) (fun j => decide (j < rulesL.length)) es clock) ∧ Hid (Below w.heap.size w wr)) (fun _ wr => (encs zs).length - wr.iterPos w2.heap.size)
  case atStart => exact ⟨0, by omega, Lib.hid (World.ownsRow_nil _ _ _ _), HI, HM2, B3⟩
  case round =>
    obtain ⟨k, hk, ho, hit, hm, hbr⟩ := hrel
    go_wp2_with (at_next; refine wpList_next_text rfl _ rfl w2.heap.size zs HC.out k rfl hit.out ?_ ?_)
    · intro hge
      have e : zs.take k = zs := List.take_of_length_le hge
      rw [e] at ho
      clear e hge
      go_wp2
      go_ret
      exact ⟨⟨_, rfl, (Own.mk_ ho.out rfl).more (by have := hbr.out.size; omega) (Nat.le_refl _)⟩, hbr.out⟩
    · intro hlt w3 hw
      have szw := hw.size
      have hgt := at_lt hit.out
      have O3 := Lib.hid (hw.own ho.out (fun b hb => by have := (ho.out.lt b hb).1; omega))
      have I3 := Lib.hid hw.it
      have M3 := Lib.hid (hm.out.below (hw.below (B := w2.heap.size) (Nat.le_refl _)) (by omega))
      have B4 := Lib.hid (hbr.out.trans (hw.below (B := w.heap.size) (by omega)))
      have LT := Lib.hid hlt
      clear hw
      obtain ⟨z, hzz⟩ : ∃ z, Hid (z = nth zs k) := ⟨_, Lib.hid rfl⟩
      rw [← hzz.out]
      have hch : chrB z = true := by rw [hzz.out]; exact chr_nth zs HC.out k hlt
      simp only [chrB, decide_eq_true_eq] at hch
      have hzl : 0 ≤ z := by omega
      have hzh : z ≤ 1114111 := by omega
      clear hch hlt
      go_wp2_with fail
      refine (classBy_any z _ w3 es clock M3.out).mono ?_
      rintro e w4 ⟨rfl, b4⟩
      have O4 := Lib.hid (own_below O3.out b4)
      have I4 := Lib.hid (iter_below I3.out b4 (at_lt I3.out))
      have M4 := Lib.hid (M3.out.below b4 M3.out.lt)
      have B5 := Lib.hid (below_on B4.out b4 (Nat.le_refl _))
      have s4 := b4.size
      have hlen : (classesN (zs.take k)).length ≤ 600 := by rw [classesN_len, List.length_take]; omega
      clear b4 O3 I3 M3 B4 ho hm hbr
      obtain ⟨q, hq⟩ : ∃ q, Hid (q = classN z) := ⟨_, Lib.hid rfl⟩
      rw [← hq.out]
      have i4 := at_lt I4.out
      go_wp2_with (at_builtin; go_loud (refine wpList_app rfl _ _ _ rfl (w2.heap.size + 1) Tryz.underlying24 hi hz0 hz1 hz2 rfl (by omega) rfl (O4.out.alloc _) rfl (Rd.lit w4 #[.int .i64 q] _) (m := 1) rfl (nums_one .i64 [q]) (by omega) (by omega) (by simp; omega) ?_); intro v' w5 o5 g5 a5)
      have gg : w4.grownBy w5 _ := (World.grownBy_alloc w4 _ _).trans g5
      have notIt : ∀ b, Value.ownBlock _ = some b → w2.heap.size + 1 ≤ b := fun b hb => (O4.out.lt b hb).1
      have I5 := Lib.hid (show w5.heap[w2.heap.size]? = _ from (gg.block w2.heap.size i4 (fun e => by have := notIt _ e.symm; omega)).trans I4.out)
      have M5 := Lib.hid (show Mp w5 _ _ _ _ _ from ⟨(gg.block _ M4.out.lt (fun e => by have := notIt _ e.symm; omega)).trans M4.out.heap, M4.out.born, M4.out.nodup, M4.out.mem, M4.out.all⟩)
      have B6 := Lib.hid (B5.out.grown gg B5.out.size (fun b hb => by have := notIt b hb; omega))
      have O5 := Lib.hid (own_app1 o5 rfl)
      have ek : Hid (classesN (zs.take (k + 1)) = classesN (zs.take k) ++ [q]) := Lib.hid (by rw [classesN_step zs k LT.out, hq.out, hzz.out])
      clear o5 g5 a5 gg notIt
      go_roundw
      case rel => exact ⟨k + 1, LT.out, by rw [ek.out]; exact O5, I5, M5, B6⟩
      case measure =>
        rw [iter_at I5.out, iter_at hit.out]
        have := encAt_lt zs k LT.out
        have := encAt_step zs k LT.out
        have := enc1_pos (nth zs k)
        omega
end Go.Proofs.YtmcmfklkljehiaaGreat

namespace Go.Proofs.YtmcmfklkljehiaaGreat
open Go.RowKit Go.Maps

theorem own_pop1 {w : World} {base m cap g : Nat} {e : TypeId} {kd : IntKind} {ys : List Int} (h : w.ownsRow base e 1 (.slice (some ⟨g, 0, none⟩) (m + 1) cap) (m + 1) (nums kd ys)) : w.ownsRow base e 1 (.slice (some ⟨g, 0, none⟩) m cap) m (nums kd ys.dropLast) := by
  have hl : ys.length = m + 1 := by have := h.1; simpa [nums] using this
  have e1 : ys = ys.dropLast ++ [nth ys m] := by
    have h0 : ys ≠ [] := by intro e; subst e; simp at hl
    have := List.dropLast_concat_getLast h0
    have e2 : ys.getLast h0 = nth ys m := by
      rw [List.getLast_eq_getElem]; simp [nth, hl]
    rw [e2] at this
    exact this.symm
  refine ownsRow_pop (n := m) (xs := nums kd ys.dropLast) (last := nums kd [nth ys m]) (by simp [nums, hl]) ?_
  rw [← nums_app, ← e1]
  exact h
theorem rep_set (a : List Int) (n k : Nat) (x y : Int) (hk : a.length = k) (hn : k < n) : (a ++ List.replicate (n - k) x).set k y = (a ++ [y]) ++ List.replicate (n - (k + 1)) x := by
  have e : n - k = (n - (k + 1)) + 1 := by omega
  rw [e, List.replicate_succ, List.set_append, if_neg (by omega), hk, Nat.sub_self]
  simp
theorem rep_set_left (a : List Int) (n k j : Nat) (x y : Int) (hj : j < a.length) : (a ++ List.replicate (n - k) x).set j y = (a.set j y) ++ List.replicate (n - k) x := by
  rw [List.set_append, if_pos hj]

theorem info_int : (Tryz.prog.info? 3).map (fun i => (i.zero, i.size, i.bytes)) = some (some (.int .i64 0), 1, 8) := by kernel_rfl

set_option maxRecDepth 100000 in
set_option maxHeartbeats 1000000 in
theorem l3Matches_any (A : Option Addr) (zs : List Int) (c : Nat) (w : World) (h1 : Rd w w.heap.size A (nums .i64 zs)) (hl : zs.length ≤ 600) (hz : zs.all chrB = true) :
    Calls Tryz.prog 56 #[.slice A zs.length c] w fun e w' => (∃ v, e = .returned v ∧ Own w' w.heap.size w'.heap.size 2 .i64 v (matchN (classesN zs))) ∧ Below w.heap.size w w' := by
  obtain ⟨i0, hi, hz0, hz1, hz2⟩ := info_parts info_int64
  obtain ⟨i1, ki, kz0, kz1, kz2⟩ := info_parts info_int
  have H1 := Lib.hid h1
  have HZ := Lib.hid hz
  clear h1 hz
  obtain ⟨ks, hks⟩ : ∃ ks, Hid (ks = classesN zs) := ⟨_, Lib.hid rfl⟩
  rw [← hks.out]
  have hkl : ks.length = zs.length := by rw [hks.out, classesN_len]
  have HKL := Lib.hid hkl
  clear hkl
  obtain ⟨n, hn⟩ : ∃ n, Hid (n = zs.length) := ⟨_, Lib.hid rfl⟩
  rw [← hn.out] at hl ⊢
  go_enter Tryz.func56, Tryz.ntmps56
  go_wp2_with (at_make; refine wpList_make_full _ rfl _ _ _ rfl w.heap.size 2 i0 (.int .i64 0) 1 Tryz.underlying24 hi hz0 hz1 _ _ _ _ n rfl rfl rfl rfl (by rw [hz2]; omega) (by unfold maxLen; omega) (Nat.le_refl _) ?_; intro w1 hown1 hg1)
  have hb1 : Below w.heap.size w w1 := (Below.refl _ _).grown hg1 (Nat.le_refl _) (by simp)
  have s1 : w.heap.size < w1.heap.size := (hown1.lt _ rfl).2
  have O1 : Hid ((w1.alloc (.cells #[] 3)).ownsRow w.heap.size 2 1 (.slice (some ⟨w.heap.size, 0, none⟩) n n) n (nums .i64 ((mrun (ks.take 0)).1 ++ List.replicate (n - 0) 0))) := Lib.hid (by
    have := hown1.alloc (.cells #[] 3)
    rw [show n * 1 = n by omega, show (Value.int .i64 0).cells = #[.int .i64 0] from rfl, toList_madeCells_one] at this
    have e : nums .i64 ((mrun (ks.take 0)).1 ++ List.replicate (n - 0) 0) = List.replicate n (Value.int .i64 0) := by simp [mrun, nums]
    rw [e]; exact this)
  have P1 : Hid ((w1.alloc (.cells #[] 3)).ownsRow (w.heap.size + 1) 3 1 (.slice (some ⟨w1.heap.size, 0, none⟩) 0 0) (mrun (ks.take 0)).2.length (nums .i64 (mrun (ks.take 0)).2)) := Lib.hid (own_more (own_new w1 3 #[] 0 rfl (by omega)) (by omega))
  have B1 := Lib.hid (hb1.alloc (Nat.le_of_lt s1) (.cells #[] 3))
  clear hown1 hg1 hb1
  go_wp2
  go_loopw [4, 5] (fun v i wr => ∃ k : Nat, k ≤ n ∧ i = .int .i64 k ∧ Hid (wr.ownsRow w.heap.size 2 1 (.slice (some ⟨w.heap.size, 0, none⟩) n n) n (nums .i64 ((mrun (ks.take k)).1 ++ List.replicate (n - k) 0))) ∧
    Hid (wr.ownsRow (w.heap.size + 1) 3 1 v (mrun (ks.take k)).2.length (nums .i64 (mrun (ks.take k)).2)) ∧ Hid (Below w.heap.size w wr)) (fun _ i _ => n - (intOf i).toNat)
  case atStart => exact ⟨0, by omega, rfl, O1, P1, B1⟩
  case round =>
    clear O1 P1 B1
    obtain ⟨k, hk, rfl, ho, hp, hbr⟩ := hrel
    by_cases hlt : k < n
    · have LT : k < zs.length := by rw [← hn.out]; exact hlt
      obtain ⟨b, off, rfl, hb, hc⟩ := (H1.out.below hbr.out (Nat.le_refl _)).int (by omega)
      have hc0 := hc k LT
      have HC0 := Lib.hid hc0
      have hsz := (ho.out.lt _ rfl).2
      have hch := chr_nth zs HZ.out k LT
      have hz1' : 0 ≤ nth zs k := by simp only [chrB, decide_eq_true_eq] at hch; omega
      have hcl := fun w => l2Class_any (nth zs k) w hz1'
      have hq0 : classN (nth zs k) = nth ks k := by rw [hks.out, classesN_nth zs k LT]
      have hstep := mrun_step ks k (by rw [HKL.out]; exact LT)
      rw [hq0] at hcl
      have HCL := Lib.hid hcl
      clear hc hcl hq0 hch hz1'
      obtain ⟨z, hzz⟩ : ∃ z, Hid (z = nth zs k) := ⟨_, Lib.hid rfl⟩
      rw [← hzz.out] at hc0 HC0 HCL
      obtain ⟨q, hq⟩ : ∃ q, Hid (q = nth ks k) := ⟨_, Lib.hid rfl⟩
      rw [← hq.out] at HCL hstep
      have hml : (mrun (ks.take k)).1.length = k := by rw [mrun_len, List.length_take, HKL.out]; omega
      have hol : (mrun (ks.take k)).2.length ≤ k := by have := mrun_open (ks.take k); rw [List.length_take] at this; omega
      have wfo := mrun_wf (ks.take k)
      obtain ⟨M, hM⟩ : ∃ M, Hid (M = mrun (ks.take k)) := ⟨_, Lib.hid rfl⟩
      rw [← hM.out] at hstep hml hol wfo ho hp
      have HST := Lib.hid hstep
      have HML := Lib.hid hml
      have WF := Lib.hid wfo
      clear hstep hml wfo LT
      -- the mark of none
      go_wp2_with (refine wpList_put rfl _ _ _ rfl i0 hi hz1 k (.int .i64 (-1)) rfl rfl rfl ho.out hlt ?_; intro w2 o2 g2; have hc2 : w2.cell? ⟨b, off + k, none⟩ = some (.int .i64 z) := g2.cell HC0.out (by simp; omega); clear ho hc0)
      have O2 := Lib.hid (show w2.ownsRow w.heap.size 2 1 (.slice (some ⟨w.heap.size, 0, none⟩) n n) n (nums .i64 ((M.1 ++ [-1]) ++ List.replicate (n - (k + 1)) 0)) by
        rw [← rep_set M.1 n k 0 (-1) HML.out hlt]; exact own_set o2)
      have P2 := Lib.hid (hp.out.kept g2 (own_apart hp.out (by omega)))
      have B2 := Lib.hid (hbr.out.grown g2 hbr.out.size (fun g hg => by injection hg with hg; omega))
      have hsz2 := (O2.out.lt _ rfl).2
      clear o2 g2 hp hbr hc2
      refine (HCL.out _).mono ?_
      rintro e w' ⟨rfl, rfl⟩
      go_wp2_with fail
      refine (l3Opens_any _ _).mono ?_
      rintro e w' ⟨rfl, rfl⟩
      by_cases hop : isOp q
      · have hob : opB q = true := by unfold opB; exact decide_eq_true hop
        have hne : (q == 22) = false := by unfold isOp at hop; simp; omega
        have E1 := Lib.hid (show mrun (ks.take (k + 1)) = (M.1 ++ [-1], M.2 ++ [(k : Int)]) by rw [HST.out]; unfold mstep; rw [if_pos hop, HML.out])
        rw [hob]
        clear hob hop
        go_wp2_with (at_builtin; go_loud (refine wpList_app rfl _ _ _ rfl (w.heap.size + 1) Tryz.underlying118 ki kz0 kz1 kz2 rfl (by omega) rfl (P2.out.alloc _) rfl (Rd.lit w2 #[.int .i64 k] _) (m := 1) rfl (nums_one .i64 [(k : Int)]) (by omega) (by omega) (by simp; omega) ?_); intro v' w5 o5 g5 a5; obtain ⟨A5, c5, rfl⟩ := own_form o5)
        have gg : w2.grownBy w5 _ := (World.grownBy_alloc w2 _ _).trans g5
        have notO : ∀ b, Value.ownBlock _ = some b → w.heap.size + 1 ≤ b := fun b hb => (P2.out.lt b hb).1
        have P5 : Hid (w5.ownsRow (w.heap.size + 1) 3 1 (.slice A5 (M.2.length + 1) c5) (mrun (ks.take (k + 1))).2.length (nums .i64 (mrun (ks.take (k + 1))).2)) := Lib.hid (by rw [E1.out]; exact own_app1 o5 rfl)
        have O5 : Hid (w5.ownsRow w.heap.size 2 1 (.slice (some ⟨w.heap.size, 0, none⟩) n n) n (nums .i64 ((mrun (ks.take (k + 1))).1 ++ List.replicate (n - (k + 1)) 0))) := Lib.hid (by
          rw [E1.out]; exact O2.out.kept gg (.inr fun e => by have : w.heap.size + 1 ≤ w.heap.size := notO _ e.symm; omega))
        have B5 := Lib.hid (B2.out.grown gg B2.out.size (fun b hb => by have := notO b hb; omega))
        clear o5 g5 a5 gg notO
        go_roundw
        case rel => exact ⟨k + 1, by omega, by go_num, O5, P5, B5⟩
        case measure => first | omega | (simp [intOf]; omega)
      · have hob : opB q = false := by unfold opB; exact decide_eq_false hop
        rw [hob]
        clear hob
        by_cases h22 : q = 22 ∧ 0 < M.2.length
        · obtain ⟨h22, h0⟩ := h22
          have E1 := Lib.hid (show mrun (ks.take (k + 1)) = (M.1.set (lastOf M.2).toNat (k : Int) ++ [lastOf M.2], M.2.dropLast) by rw [HST.out]; unfold mstep; rw [if_neg hop, if_pos ⟨h22, h0⟩, HML.out])
          have hqe : (q == 22) = true := by simp [h22]
          clear hop
          obtain ⟨m, hm⟩ : ∃ m, Hid (M.2.length = m + 1) := ⟨M.2.length - 1, Lib.hid (by show M.2.length = _; omega)⟩
          have lst := WF.out.last h0
          rw [HML.out] at lst
          obtain ⟨x, hx⟩ : ∃ x : Nat, Hid (lastOf M.2 = (x : Int)) := ⟨(lastOf M.2).toNat, Lib.hid (by show lastOf M.2 = _; omega)⟩
          rw [hx.out] at lst E1
          have lx : x < k := by omega
          have P3 := P2
          rw [hm.out] at P3
          obtain ⟨g', c', rfl, hgb⟩ := own_addr P3.out (by omega)
          have cp := own_cap P3.out
          have hcl := own_cell P3.out m (by omega)
          rw [show nth M.2 m = lastOf M.2 by unfold lastOf; rw [hm.out]; rfl, hx.out] at hcl
          have HCL2 := Lib.hid hcl
          have xt : ((x : Nat) : Int).toNat = x := by omega
          have E2 := Lib.hid (match_lists M.1 k x (n - (k + 1)) HML.out lx)
          rw [xt] at E1
          have hmb : m < 600 := by have := hm.out; omega
          clear lst xt h22 h0 hol
          have tok1 : True := trivial
          go_wp2_with (first
            | (have _t := tok1; refine wpList_put rfl _ _ _ rfl i0 hi hz1 k (.int .i64 x) rfl rfl rfl O2.out hlt ?_; intro w3 o3 g3; have hc3 : w3.cell? ⟨g', m, none⟩ = some (.int .i64 x) := g3.cell HCL2.out (by simp; omega); clear tok1 hcl)
            | (refine wpList_put rfl _ _ _ rfl i0 hi hz1 x (.int .i64 k) rfl rfl rfl o3 (by omega) ?_; intro w4 o4 g4))
          have O4 : Hid (w4.ownsRow w.heap.size 2 1 (.slice (some ⟨w.heap.size, 0, none⟩) n n) n (nums .i64 ((mrun (ks.take (k + 1))).1 ++ List.replicate (n - (k + 1)) 0))) := Lib.hid (by
            rw [E1.out]
            show w4.ownsRow _ _ _ _ _ (nums .i64 ((M.1.set x (k : Int) ++ [(x : Int)]) ++ List.replicate (n - (k + 1)) 0))
            rw [← E2.out]
            have := own_set (ys := (M.1 ++ [-1] ++ List.replicate (n - (k + 1)) 0).set k (x : Int)) (j := x) (z := (k : Int)) (by rw [← nums_set]; exact o4)
            exact this)
          have gg := g3.trans g4
          have P5 : Hid (w4.ownsRow (w.heap.size + 1) 3 1 (.slice (some ⟨g', 0, none⟩) m c') (mrun (ks.take (k + 1))).2.length (nums .i64 (mrun (ks.take (k + 1))).2)) := Lib.hid (by
            rw [E1.out]
            have := own_pop1 (P3.out.kept gg (.inr (by simp [Value.ownBlock]; omega)))
            have el : M.2.dropLast.length = m := by rw [List.length_dropLast, hm.out]; omega
            show w4.ownsRow _ _ _ _ M.2.dropLast.length (nums .i64 M.2.dropLast)
            rw [el]; exact this)
          have B5 := Lib.hid (B2.out.grown gg B2.out.size (fun b hb => by injection hb with hb; omega))
          clear o3 o4 g3 g4 gg
          go_roundw
          case rel => exact ⟨k + 1, by omega, by go_num, O4, P5, B5⟩
          case measure => first | omega | (simp [intOf]; omega)
        · have E1 := Lib.hid (show mrun (ks.take (k + 1)) = (M.1 ++ [-1], M.2) by rw [HST.out]; unfold mstep; rw [if_neg hop, if_neg h22])
          have O5 : Hid (w2.ownsRow w.heap.size 2 1 (.slice (some ⟨w.heap.size, 0, none⟩) n n) n (nums .i64 ((mrun (ks.take (k + 1))).1 ++ List.replicate (n - (k + 1)) 0))) := Lib.hid (by rw [E1.out]; exact O2.out)
          have P5 := P2
          rw [show M.2 = (mrun (ks.take (k + 1))).2 by rw [E1.out]] at P5
          obtain ⟨A5, c5, rfl⟩ := own_form P2.out
          by_cases hq2 : q = 22
          · have hqe : (q == 22) = true := by simp [hq2]
            have h0 : M.2.length = 0 := by omega
            have H0 := Lib.hid h0
            have e0 : ((M.2.length : Nat) : Int) = 0 := by omega
            clear hop h22 hq2 h0
            go_wp2
            go_roundw
            case rel => exact ⟨k + 1, by omega, by go_num, O5, P5, B2⟩
            case measure => first | omega | (simp [intOf]; omega)
          · have hqe : (q == 22) = false := by simpa using hq2
            clear hop h22 hq2
            go_wp2
            go_roundw
            case rel => exact ⟨k + 1, by omega, by go_num, O5, P5, B2⟩
            case measure => first | omega | (simp [intOf]; omega)
    · have e : ks.take k = ks := List.take_of_length_le (by rw [HKL.out, ← hn.out]; omega)
      have e2 : n - k = 0 := by omega
      rw [e, e2, List.replicate_zero, List.append_nil] at ho
      have hml : (mrun ks).1.length = n := by rw [mrun_len, HKL.out, ← hn.out]
      have HO := Lib.hid (show Own wr w.heap.size wr.heap.size 2 .i64 (.slice (some ⟨w.heap.size, 0, none⟩) n n) (matchN ks) from Own.mk_ ho.out hml.symm)
      obtain ⟨A5, c5, rfl⟩ := own_form hp.out
      clear e e2 hml
      go_wp2
      go_ret
      exact ⟨⟨_, rfl, HO.out⟩, hbr.out⟩

/-- what MatchesOf answers -/
def matL (zs : List Int) : List Int := if textF zs = 0 then matchN (classesN zs) else []
theorem matL_len (zs : List Int) : (matL zs).length ≤ 600 := by
  unfold matL
  split
  · rw [matchN_len, classesN_len]; exact (textF_zero (by assumption)).1
  · simp

set_option maxRecDepth 100000 in
set_option maxHeartbeats 1000000 in
theorem l3Base_any (A Am : Option Addr) (zs : List Int) (c cm : Nat) (w : World) (B B' : Nat) (h1 : Rd w B A (nums .i64 zs)) (h2 : Rd w B' Am (nums .i64 (matchN (classesN zs)))) (hl : zs.length ≤ 600) (hz : zs.all chrB = true) (fr to : Nat) (hf : fr ≤ zs.length) (ht : to ≤ zs.length) :
    Calls Tryz.prog 86 #[.slice A zs.length c, .slice Am zs.length cm, .int .i64 fr, .int .i64 to] w fun e w' => e = .returned (.int .i64 (baseG 0 (((classesN zs).take to).drop fr))) ∧ w = w' := by
  have H1 := Lib.hid h1
  have H2 := Lib.hid h2
  have HZ := Lib.hid hz
  clear h1 h2 hz
  obtain ⟨ks, hks⟩ : ∃ ks, Hid (ks = classesN zs) := ⟨_, Lib.hid rfl⟩
  rw [← hks.out] at H2 ⊢
  have hkl : ks.length = zs.length := by rw [hks.out, classesN_len]
  have HKL := Lib.hid hkl
  clear hkl
  obtain ⟨ans, hans⟩ : ∃ x, Hid (x = baseG 0 ((ks.take to).drop fr)) := ⟨_, Lib.hid rfl⟩
  rw [← hans.out]
  go_enter Tryz.func86, Tryz.ntmps86
  go_wp2
  go_loop [9] (fun i => ∃ k : Nat, k ≤ zs.length ∧ i = .int .i64 k ∧ Hid (ans = baseG 0 ((ks.take to).drop k))) (fun i => zs.length + 1 - (intOf i).toNat)
  case atStart => exact ⟨fr, hf, rfl, hans⟩
  case round =>
    obtain ⟨k, hk, rfl, hs⟩ := hrel
    by_cases hlt : k < to
    · have LT : k < zs.length := by omega
      obtain ⟨b, off, rfl, hb, hc⟩ := H1.out.int (by omega)
      have hc0 := hc k LT
      clear hc
      have hch := chr_nth zs HZ.out k LT
      have hz1' : 0 ≤ nth zs k := by simp only [chrB, decide_eq_true_eq] at hch; omega
      have hcl := fun w => l2Class_any (nth zs k) w hz1'
      have hq0 : classN (nth zs k) = nth ks k := by rw [hks.out, classesN_nth zs k LT]
      rw [hq0] at hcl
      have HCL := Lib.hid hcl
      clear hcl hq0 hch hz1'
      obtain ⟨z, hzz⟩ : ∃ z, Hid (z = nth zs k) := ⟨_, Lib.hid rfl⟩
      rw [← hzz.out] at hc0 HCL
      have BC := Lib.hid (base_cons ks to k hlt (by rw [HKL.out]; exact ht))
      have BO := Lib.hid (fun h => base_open ks to k h hlt (by rw [HKL.out]; exact ht))
      have MO := Lib.hid (fun h => match_open ks k (by rw [HKL.out]; exact LT) h)
      have CL := Lib.hid (closeAt_lt (ks.drop (k + 1)) 0)
      obtain ⟨q, hq⟩ : ∃ q, Hid (q = nth ks k) := ⟨_, Lib.hid rfl⟩
      rw [← hq.out] at HCL BC BO MO
      by_cases hop : isOp q
      · have hob : opB q = true := by unfold opB; exact decide_eq_true hop
        have n0 : (q == 0) = false := by unfold isOp at hop; simp; omega
        have n1 : (q == 1) = false := by unfold isOp at hop; simp; omega
        have n2 : (q == 2) = false := by unfold isOp at hop; simp; omega
        obtain ⟨b2, off2, rfl, hb2, hcm⟩ := H2.out.int (by rw [matchN_len, HKL.out]; omega)
        have hm0 := hcm k (by rw [matchN_len, HKL.out]; exact LT)
        clear hcm
        have mo := MO.out hop
        have bo := BO.out hop
        cases hcA : closeAt 0 (ks.drop (k + 1)) with
        | none =>
          rw [hcA] at mo bo
          rw [show nth (matchN ks) k = -1 from mo] at hm0
          have E := Lib.hid (show ans = 0 by rw [hs.out]; exact bo)
          clear mo bo hop hcA
          go_wp2_with (first
            | (go_at_call 55; refine (HCL.out _).mono ?_; rintro e w' ⟨rfl, rfl⟩)
            | (go_at_call 63; refine (l3Opens_any _ _).mono ?_; rintro e w' ⟨rfl, rfl⟩; rw [hob]))
          go_ret
          exact ⟨rint E.out.symm, rfl⟩
        | some d =>
          rw [hcA] at mo bo
          have cl := CL.out d hcA
          rw [List.length_drop, HKL.out] at cl
          rw [show nth (matchN ks) k = ((k + 1 + d : Nat) : Int) from mo] at hm0
          have E := Lib.hid (show ans = baseG 0 ((ks.take to).drop (k + 1 + d + 1)) by rw [hs.out]; exact bo)
          obtain ⟨j, hj⟩ : ∃ j, Hid (j = k + 1 + d) := ⟨_, Lib.hid rfl⟩
          rw [← hj.out] at hm0 E
          have j1 : k < j := by have := hj.out; omega
          have j2 : j < zs.length := by have := hj.out; omega
          have hnn : ¬ ((j : Int) < 0) := by omega
          clear mo bo hop hcA cl
          go_wp2_with (first
            | (go_at_call 55; refine (HCL.out _).mono ?_; rintro e w' ⟨rfl, rfl⟩)
            | (go_at_call 63; refine (l3Opens_any _ _).mono ?_; rintro e w' ⟨rfl, rfl⟩; rw [hob]))
          go_round
          case rel => exact ⟨j + 1, by omega, by go_num, E⟩
          case measure => first | omega | (simp [intOf]; omega)
      · have hob : opB q = false := by unfold opB; exact decide_eq_false hop
        by_cases h0 : q = 0
        · have E := Lib.hid (show ans = 0 by rw [hs.out, BC.out, if_neg hop, if_neg (by omega), if_pos h0])
          have n0 : (q == 0) = true := by simp [h0]
          clear hop h0
          go_wp2_with (go_at_call 55; refine (HCL.out _).mono ?_; rintro e w' ⟨rfl, rfl⟩)
          go_ret
          exact ⟨rint E.out.symm, rfl⟩
        · have n0 : (q == 0) = false := by simpa using h0
          by_cases h12 : q = 1 ∨ q = 2
          · have E := Lib.hid (show ans = 1 by rw [hs.out, BC.out, if_neg hop, if_neg (by omega), if_neg h0, if_pos h12])
            by_cases h1 : q = 1
            · have n1 : (q == 1) = true := by simp [h1]
              clear hop h0 h12 h1
              go_wp2_with (go_at_call 55; refine (HCL.out _).mono ?_; rintro e w' ⟨rfl, rfl⟩)
              go_ret
              exact ⟨rint E.out.symm, rfl⟩
            · have n1 : (q == 1) = false := by simpa using h1
              have n2 : (q == 2) = true := by simp; omega
              clear hop h0 h12 h1
              go_wp2_with (go_at_call 55; refine (HCL.out _).mono ?_; rintro e w' ⟨rfl, rfl⟩)
              go_ret
              exact ⟨rint E.out.symm, rfl⟩
          · have n1 : (q == 1) = false := by simp; omega
            have n2 : (q == 2) = false := by simp; omega
            have E := Lib.hid (show ans = baseG 0 ((ks.take to).drop (k + 1)) by
              rw [hs.out, BC.out, if_neg hop]
              split
              all_goals first | rfl | rw [if_neg h0, if_neg h12])
            clear hop h0 h12
            go_wp2_with (first
              | (go_at_call 55; refine (HCL.out _).mono ?_; rintro e w' ⟨rfl, rfl⟩)
              | (go_at_call 63; refine (l3Opens_any _ _).mono ?_; rintro e w' ⟨rfl, rfl⟩; rw [hob]))
            go_round
            case rel => exact ⟨k + 1, by omega, by go_num, E⟩
            case measure => first | omega | (simp [intOf]; omega)
    · have E := Lib.hid (show ans = 0 by rw [hs.out, List.drop_of_length_le (by rw [List.length_take]; omega)]; rfl)
      go_wp2
      go_ret
      exact ⟨rint E.out.symm, rfl⟩

/-- what BaseLevel answers -/
def baseV (zs : List Int) : Int := if textF zs = 0 then baseN (classesN zs) else 0
end Go.Proofs.YtmcmfklkljehiaaGreat
