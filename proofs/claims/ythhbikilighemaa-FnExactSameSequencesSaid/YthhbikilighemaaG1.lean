/- Chapter 3: faults, the string of a text, the classes of a text. -/
import Derived.Test.YthhbikilighemaaC5
import Derived.Test.YthhbikilighemaaE2
import Derived.Test.YthhbikilighemaaU1
namespace Go.Proofs.Ythhbikilighemaa
open Go.RowKit Go.Maps

def textF (zs : List Int) : Int := if 600 < zs.length then 2 else if zs.all chrB then 0 else 3
theorem textF_many {zs : List Int} (h : 600 < zs.length) : textF zs = 2 := by unfold textF; rw [if_pos h]
theorem textF_no {zs : List Int} (h : ¬ 600 < zs.length) (h' : zs.all chrB = false) : textF zs = 3 := by unfold textF; rw [if_neg h, h']; rfl
theorem textF_ok {zs : List Int} (h : ¬ 600 < zs.length) (h' : zs.all chrB = true) : textF zs = 0 := by unfold textF; rw [if_neg h, h']; rfl
theorem textF_zero {zs : List Int} (h : textF zs = 0) : zs.length ≤ 600 ∧ zs.all chrB = true := by
  unfold textF at h
  split at h
  · omega
  · split at h
    · exact ⟨by omega, by assumption⟩
    · omega
theorem encode_zero {zs : List Int} (h : textF zs = 0) : encode zs = (0, encs zs) := by
  obtain ⟨h1, h2⟩ := textF_zero h
  unfold encode; rw [if_neg (by omega), h2]; rfl
theorem textF_range (zs : List Int) : 0 ≤ textF zs ∧ textF zs ≤ 3 := by
  unfold textF
  repeat' split
  all_goals omega

set_option maxRecDepth 100000 in
set_option maxHeartbeats 400000 in
theorem specTextFault_any (A : Option Addr) (zs : List Int) (c : Nat) (w : World) (B : Nat) (h1 : Rd w B A (nums .i64 zs)) (hl : zs.length < 1000000000) :
    Calls Try.prog 49 #[.slice A zs.length c] w fun e w' => e = .returned (.int .i64 (textF zs)) ∧ w = w' := by
  by_cases h6 : 600 < zs.length
  · have e := Lib.hid (textF_many h6)
    go_enter Try.func49, Try.ntmps49
    go_wp2
    go_ret
    exact ⟨rint e.out.symm, rfl⟩
  · have H1 := Lib.hid h1
    clear h1
    go_enter Try.func49, Try.ntmps49
    go_wp2
    go_loop [3] (fun i => ∃ k : Nat, k ≤ zs.length ∧ i = .int .i64 k ∧ Hid ((zs.take k).all chrB = true)) (fun i => zs.length - (intOf i).toNat)
    case atStart => exact ⟨0, by omega, rfl, rfl⟩
    case round =>
      obtain ⟨k, hk, rfl, hs⟩ := hrel
      by_cases hlt : k < zs.length
      · obtain ⟨b, off, rfl, hb, hc⟩ := H1.out.int (by omega)
        have hc0 := hc k hlt
        clear hc
        obtain ⟨z, hz⟩ : ∃ z, Hid (z = nth zs k) := ⟨_, Lib.hid rfl⟩
        rw [← hz.out] at hc0
        by_cases hp : chrB z = true
        · have hp' : Hid (decide ((0 ≤ z ∧ z ≤ 55295) ∨ (57344 ≤ z ∧ z ≤ 1114111)) = true) := Lib.hid hp
          have HP := Lib.hid hp
          clear hp
          go_wp2_with (go_at_call 79; refine (specIsChar_any _ _).mono ?_; rintro e w' ⟨rfl, rfl⟩; rw [hp'.out])
          go_round
          case rel => exact ⟨k + 1, by omega, by go_num, Lib.hid (by rw [all_step chrB zs k hlt (by rw [← hz.out]; exact HP.out)]; exact hs.out)⟩
          case measure => first | omega | (simp [intOf]; omega)
        · have hp' : Hid (decide ((0 ≤ z ∧ z ≤ 55295) ∨ (57344 ≤ z ∧ z ≤ 1114111)) = false) := Lib.hid (by simpa [chrB] using hp)
          have E := Lib.hid (textF_no h6 (all_false chrB zs k hlt (by rw [← hz.out]; simpa using hp)))
          clear hp
          go_wp2_with (go_at_call 79; refine (specIsChar_any _ _).mono ?_; rintro e w' ⟨rfl, rfl⟩; rw [hp'.out])
          go_ret
          exact ⟨rint E.out.symm, rfl⟩
      · have E := Lib.hid (textF_ok h6 (by have := hs.out; rwa [List.take_of_length_le (by omega)] at this))
        go_wp2
        go_ret
        exact ⟨rint E.out.symm, rfl⟩

set_option maxRecDepth 100000 in
set_option maxHeartbeats 400000 in
theorem textFault_any (A : Option Addr) (zs : List Int) (c : Nat) (w : World) (B : Nat) (h1 : Rd w B A (nums .i64 zs)) (hB : B ≤ w.heap.size) (hl : zs.length < 1000000000) :
    Calls Try.prog 84 #[.slice A zs.length c] w fun e w' => e = .returned (.int .i64 (textF zs)) ∧ Below w.heap.size w w' := by
  by_cases h6 : 600 < zs.length
  · have e := Lib.hid (textF_many h6)
    go_enter Try.func84, Try.ntmps84
    go_wp2
    go_ret
    exact ⟨rint e.out.symm, Below.refl _ _⟩
  · have H1 := Lib.hid h1
    clear h1
    go_enter Try.func84, Try.ntmps84
    go_wp2
    go_loopw [10] (fun i wr => ∃ k : Nat, k ≤ zs.length ∧ i = .int .i64 k ∧ Hid ((zs.take k).all chrB = true) ∧ Below w.heap.size w wr) (fun i _ => zs.length - (intOf i).toNat)
    case atStart => exact ⟨0, by omega, rfl, rfl, Below.refl _ _⟩
    case round =>
      obtain ⟨k, hk, rfl, hs, hbr⟩ := hrel
      by_cases hlt : k < zs.length
      · obtain ⟨b, off, rfl, hb, hc⟩ := (H1.out.below hbr hB).int (by omega)
        have hc0 := hc k hlt
        clear hc
        obtain ⟨z, hz⟩ : ∃ z, Hid (z = nth zs k) := ⟨_, Lib.hid rfl⟩
        rw [← hz.out] at hc0
        by_cases hp : chrB z = true
        · have hp' : Hid (decide ((0 ≤ z ∧ z ≤ 55295) ∨ (57344 ≤ z ∧ z ≤ 1114111)) = true) := Lib.hid hp
          have HP := Lib.hid hp
          clear hp
          go_wp2_with fail
          refine (isChar_any _ _).mono ?_
          rintro e w1 ⟨rfl, b1⟩
          rw [hp'.out]
          have hb1 := below_on hbr b1 (Nat.le_refl _)
          clear hbr b1
          go_wp2
          go_roundw
          case rel => exact ⟨k + 1, by omega, by go_num, Lib.hid (by rw [all_step chrB zs k hlt (by rw [← hz.out]; exact HP.out)]; exact hs.out), hb1⟩
          case measure => first | omega | (simp [intOf]; omega)
        · have hp' : Hid (decide ((0 ≤ z ∧ z ≤ 55295) ∨ (57344 ≤ z ∧ z ≤ 1114111)) = false) := Lib.hid (by simpa [chrB] using hp)
          have E := Lib.hid (textF_no h6 (all_false chrB zs k hlt (by rw [← hz.out]; simpa using hp)))
          clear hp
          go_wp2_with fail
          refine (isChar_any _ _).mono ?_
          rintro e w1 ⟨rfl, b1⟩
          rw [hp'.out]
          have hb1 := below_on hbr b1 (Nat.le_refl _)
          clear hbr b1
          go_wp2
          go_ret
          exact ⟨rint E.out.symm, hb1⟩
      · have E := Lib.hid (textF_ok h6 (by have := hs.out; rwa [List.take_of_length_le (by omega)] at this))
        go_wp2
        go_ret
        exact ⟨rint E.out.symm, hbr⟩

theorem specTextFault_val (v : Value) (zs : List Int) (w : World) (B : Nat) (h : Sees w B .i64 v zs) (_ : B ≤ w.heap.size) (l : zs.length < 1000000000) (_ : ∀ n ∈ zs, (Lit.int .i64 n).wf = true) :
    Calls Try.prog 49 #[v] w fun e w' => e = .returned (.int .i64 (textF zs)) ∧ Below w.heap.size w w' := by
  obtain ⟨A, c, rfl, hr⟩ := h
  exact (specTextFault_any A zs c w B hr l).mono fun e w' ⟨h1, h2⟩ => ⟨h1, by subst h2; exact Below.refl _ _⟩
theorem textFault_val (v : Value) (zs : List Int) (w : World) (B : Nat) (h : Sees w B .i64 v zs) (hB : B ≤ w.heap.size) (l : zs.length < 1000000000) (_ : ∀ n ∈ zs, (Lit.int .i64 n).wf = true) :
    Calls Try.prog 84 #[v] w fun e w' => e = .returned (.int .i64 (textF zs)) ∧ Below w.heap.size w w' := by
  obtain ⟨A, c, rfl, hr⟩ := h
  exact textFault_any A zs c w B hr hB l

def opB (k : Int) : Bool := decide (19 ≤ k ∧ k ≤ 21)
theorem opensIsolate_any (k : Int) (w : World) :
    Calls Try.prog 94 #[.int .i64 k] w fun e w' => e = .returned (.bool (opB k)) ∧ Below w.heap.size w w' := by
  have b1 := (Below.refl w.heap.size w).alloc (Nat.le_refl _) (.cells #[.int .i64 19, .int .i64 21] 2)
  go_enter Try.func94, Try.ntmps94
  go_wp2_with (go_at_call 73; (with_reducible refine (within_lit2 _ _ _ _ _ _ (by simp)).mono ?_); rintro e w' ⟨rfl, rfl⟩)
  go_ret
  refine ⟨rbool ?_, b1⟩
  simp only [spans, Bool.or_false, opB]
  rw [Bool.eq_iff_iff]; simp
theorem l3Opens_any (k : Int) (w : World) :
    Calls Try.prog 65 #[.int .i64 k] w fun e w' => e = .returned (.bool (opB k)) ∧ w = w' := by
  go_enter Try.func65, Try.ntmps65
  go_wp2_with (go_at_call 50; refine (l1In_any _ _ _ _).mono ?_; rintro e w' ⟨rfl, rfl⟩)
  go_ret
  exact ⟨rbool (by simp [opB]), rfl⟩

theorem field_bytes (x : Value) (A : Option Addr) (n c : Nat) (w : World) : (Instr.field 111 (.agg #[x, .slice A n c]) 1).run Try.prog w = .ok (.slice A n c) w := by
  simp [Instr.field, go_sem, asAgg]
attribute [local go_sem] field_bytes

set_option maxRecDepth 100000 in
set_option maxHeartbeats 400000 in
theorem stringOf_any (A : Option Addr) (zs : List Int) (c : Nat) (w : World) (B : Nat) (h1 : Rd w B A (nums .i64 zs)) (hB : B ≤ w.heap.size) (hz : textF zs = 0) :
    Calls Try.prog 71 #[.slice A zs.length c] w fun e w' => e = .returned (.string (bstr (encs zs))) ∧ Below w.heap.size w w' := by
  have hl := (textF_zero hz).1
  have EZ := Lib.hid (encode_zero hz)
  have HB := Lib.hid (encs_bytes zs (textF_zero hz).2)
  go_enter Try.func71, Try.ntmps71
  go_wp2_with fail
  refine (encodeText_any A zs c w (h1.more hB) (by omega)).mono ?_
  rintro e w1 ⟨⟨v, rfl, o1⟩, b1⟩
  rw [EZ.out] at o1 ⊢
  obtain ⟨A1, c1, rfl⟩ := o1.form
  have hcv := run_bstr (P := Try.prog) w1 109 9 5 A1 c1 (encs zs) Try.underlying109 Try.underlying5 Try.underlying9 _ (Rd.of o1.1) HB.out
  clear o1 h1
  go_wp2
  go_ret
  exact ⟨rfl, b1⟩

/-- an iterator has gone on; nothing else has turned -/
structure Went (w : World) (g : Nat) (o : Obj) (w' : World) : Prop where
  it : w'.heap[g]? = some o
  other : ∀ i, i ≠ g → w'.heap[i]? = w.heap[i]?
  size : w'.heap.size = w.heap.size
  os : w'.os = w.os
  tape : w'.tape = w.tape
  output : w'.output = w.output
theorem Went.below {w w' : World} {g B : Nat} {o : Obj} (h : Went w g o w') (hB : B ≤ g) : Below B w w' := ⟨h.os, h.tape, h.output, by rw [h.size]; exact Nat.le_refl _, fun i hi => h.other i (by omega)⟩
theorem Went.own {w w' : World} {g : Nat} {o : Obj} {base n size : Nat} {e : TypeId} {v : Value} {xs : List Value} (h : Went w g o w') (hr : w.ownsRow base e size v n xs) (hv : ∀ b, v.ownBlock = some b → b ≠ g) : w'.ownsRow base e size v n xs :=
  ⟨hr.1, by
    rcases hr.2 with hn | ⟨b, cap, cur, rfl, h1, h2, rest⟩
    · exact .inl hn
    · exact .inr ⟨b, cap, cur, rfl, h1, by rw [h.other b (hv b rfl)]; exact h2, rest⟩⟩
theorem wpList_next_text {P : Program} {w : World} {ops : Array Oper} {rest : List Oper} {o : Oper} {a : Act} {Q : Exit → Act → World → Prop} (hgd : o.guard = none) (it : Operand) (hop : o.op = Op.next it true)
    (g : Nat) (zs : List Int) (hz : zs.all chrB = true) (k : Nat) (hit : a.eval it = .pointer (some ⟨g, 0, none⟩)) (hk : w.heap[g]? = some (.stringIter (bstr (encs zs)) (encAt zs k)))
    (hDone : zs.length ≤ k → wpList P ops Q rest (a.put o.dst (.tuple #[.bool false])) w)
    (hMore : k < zs.length → ∀ w', Went w g (.stringIter (bstr (encs zs)) (encAt zs (k + 1))) w' → wpList P ops Q rest (a.put o.dst (.tuple #[.bool true, .int .i64 (encAt zs k), .int .i32 (nth zs k)])) w') :
    wpList P ops Q (o :: rest) a w := by
  refine wpList_plain hgd fun K' hK' => ?_
  unfold Oper.wp
  by_cases h : k < zs.length
  · have hrun := next_text (P := P) w g zs hz k h o.type hk
    simp [execOp, hop, hit, hrun, Result.andThen]
    exact hK' _ _ (hMore h _ ⟨Lib.iterAt_heap _ _ _ _ _ hk, fun i hi => Lib.iterAt_other _ _ _ _ _ hi, Lib.iterAt_size _ _ _ _, rfl, rfl, rfl⟩)
  · have hrun := next_end (P := P) w g zs k (by omega) o.type hk
    simp [execOp, hop, hit, hrun, Result.andThen]
    exact hK' _ _ (hDone (by omega))

theorem Mp.below {w w' : World} {b B : Nat} {L : List Ent} {S : Nat → Bool} {es : Array MapEntry} {clock : Nat} (h : Mp w b L S es clock) (hb : Below B w w') (hB : b < B) : Mp w' b L S es clock :=
  ⟨(hb.block b hB).trans h.heap, h.born, h.nodup, h.mem, h.all⟩
theorem iter_at {w : World} {g : Nat} {s : ByteArray} {p : Nat} (h : w.heap[g]? = some (.stringIter s p)) : w.iterPos g = p := by simp [World.iterPos, h]
theorem iter_below {w w' : World} {g B : Nat} {s : ByteArray} {p : Nat} (h : w.heap[g]? = some (.stringIter s p)) (hb : Below B w w') (hB : g < B) : w'.heap[g]? = some (.stringIter s p) := (hb.block g hB).trans h
theorem at_lt {w : World} {g : Nat} {o : Obj} (h : w.heap[g]? = some o) : g < w.heap.size := (Array.getElem?_eq_some_iff.1 h).1

def classesN (zs : List Int) : List Int := zs.map classN
theorem classesN_len (zs : List Int) : (classesN zs).length = zs.length := by simp [classesN]
theorem classesN_nth (zs : List Int) (k : Nat) (h : k < zs.length) : nth (classesN zs) k = classN (nth zs k) := by simp [classesN, nth, List.getElem?_eq_getElem h]
theorem classesN_step (zs : List Int) (k : Nat) (h : k < zs.length) : classesN (zs.take (k + 1)) = classesN (zs.take k) ++ [classN (nth zs k)] := by rw [take_nth zs k h]; simp [classesN]
theorem own_app1 {w' : World} {B : Nat} {t : TypeId} {v' : Value} {n : Nat} {a : List Int} {z : Int} {kd : IntKind} (h : w'.ownsRow B t 1 v' (n + 1) (nums kd a ++ [.int kd z])) (hn : n = a.length) :
    w'.ownsRow B t 1 v' (a ++ [z]).length (nums kd (a ++ [z])) := by subst hn; rw [nums_app, List.length_append]; exact h

set_option maxRecDepth 100000 in
set_option maxHeartbeats 1000000 in
theorem classesOf_any (A : Option Addr) (zs : List Int) (c : Nat) (w : World) (B : Nat) (h1 : Rd w B A (nums .i64 zs)) (hB : B ≤ w.heap.size) (hz : textF zs = 0) :
    Calls Try.prog 37 #[.slice A zs.length c] w fun e w' => (∃ v, e = .returned v ∧ Own w' w.heap.size w'.heap.size 2 .i64 v (classesN zs)) ∧ Below w.heap.size w w' := by
  obtain ⟨i0, hi, hz0, hz1, hz2⟩ := info_parts info_int64
  have hl := (textF_zero hz).1
  have HC := Lib.hid (textF_zero hz).2
  have HZ := Lib.hid hz
  have H1 := Lib.hid h1
  clear hz h1
  go_enter Try.func37, Try.ntmps37
  go_wp2_with fail
  refine (classRules_any _).mono ?_
  rintro e w1 ⟨⟨rfl, es, clock, hm⟩, b1⟩
  have s1 := hm.lt
  go_wp2_with fail
  refine (stringOf_any A zs c w1 B (H1.out.below b1 hB) (by have := b1.size; omega) HZ.out).mono ?_
  rintro e w2 ⟨rfl, b2⟩
  have s2 := b2.size
  have HM := Lib.hid (hm.below b2 s1)
  have b3 := below_on b1 b2 (Nat.le_refl _)
  have B3 := Lib.hid (b3.alloc b3.size (.stringIter (bstr (encs zs)) 0))
  have HM2 := Lib.hid (show Mp (w2.alloc (.stringIter (bstr (encs zs)) 0)) _ _ _ _ _ from HM.out.below ((Below.refl _ _).alloc (Nat.le_refl _) _) HM.out.lt)
  have HI := Lib.hid (show (w2.alloc (.stringIter (bstr (encs zs)) 0)).heap[w2.heap.size]? = some (.stringIter (bstr (encs zs)) (encAt zs 0)) by rw [encAt_zero]; exact heap_alloc_new w2 _)
  clear b1 b2 b3 hm
  go_wp2
  generalize hX : World.iter w2 (bstr (encs zs)) 0 = X at *
  have eX : X = w2.alloc (.stringIter (bstr (encs zs)) 0) := by rw [← hX]; rfl
  rw [← eX] at B3 HM2 HI
  have szX : X.heap.size = w2.heap.size + 1 := by rw [eX]; simp
  clear eX hX HM
  go_loopw [3] (fun v wr => ∃ k : Nat, k ≤ zs.length ∧ Hid (wr.ownsRow (w2.heap.size + 1) 2 1 v (classesN (zs.take k)).length (nums .i64 (classesN (zs.take k)))) ∧
    Hid (wr.heap[w2.heap.size]? = some (.stringIter (bstr (encs zs)) (encAt zs k))) ∧ Hid (Mp wr w.heap.size (rulesL.map rEnt) (fun j => decide (j < rulesL.length)) es clock) ∧ Hid (Below w.heap.size w wr)) (fun _ wr => (encs zs).length - wr.iterPos w2.heap.size)
  case atStart => exact ⟨0, by omega, Lib.hid (World.ownsRow_nil _ _ _ _), HI, HM2, B3⟩
  case round =>
    obtain ⟨k, hk, ho, hit, hm, hbr⟩ := hrel
    go_wp2_with (at_next; refine wpList_next_text rfl _ rfl w2.heap.size zs HC.out k rfl hit.out ?_ ?_)
    · intro hge
      have e : zs.take k = zs := List.take_of_length_le hge
      rw [e] at ho
      clear e hge
      go_wp2
      go_ret
      exact ⟨⟨_, rfl, (Own.mk_ ho.out rfl).more (by have := hbr.out.size; omega) (Nat.le_refl _)⟩, hbr.out⟩
    · intro hlt w3 hw
      have szw := hw.size
      have hgt := at_lt hit.out
      have O3 := Lib.hid (hw.own ho.out (fun b hb => by have := (ho.out.lt b hb).1; omega))
      have I3 := Lib.hid hw.it
      have M3 := Lib.hid (hm.out.below (hw.below (B := w2.heap.size) (Nat.le_refl _)) (by omega))
      have B4 := Lib.hid (hbr.out.trans (hw.below (B := w.heap.size) (by omega)))
      have LT := Lib.hid hlt
      clear hw
      obtain ⟨z, hzz⟩ : ∃ z, Hid (z = nth zs k) := ⟨_, Lib.hid rfl⟩
      rw [← hzz.out]
      have hch : chrB z = true := by rw [hzz.out]; exact chr_nth zs HC.out k hlt
      simp only [chrB, decide_eq_true_eq] at hch
      have hzl : 0 ≤ z := by omega
      have hzh : z ≤ 1114111 := by omega
      clear hch hlt
      go_wp2_with fail
      refine (classBy_any z _ w3 es clock M3.out).mono ?_
      rintro e w4 ⟨rfl, b4⟩
      have O4 := Lib.hid (own_below O3.out b4)
      have I4 := Lib.hid (iter_below I3.out b4 (at_lt I3.out))
      have M4 := Lib.hid (M3.out.below b4 M3.out.lt)
      have B5 := Lib.hid (below_on B4.out b4 (Nat.le_refl _))
      have s4 := b4.size
      have hlen : (classesN (zs.take k)).length ≤ 600 := by rw [classesN_len, List.length_take]; omega
      clear b4 O3 I3 M3 B4 ho hm hbr
      obtain ⟨q, hq⟩ : ∃ q, Hid (q = classN z) := ⟨_, Lib.hid rfl⟩
      rw [← hq.out]
      have i4 := at_lt I4.out
      go_wp2_with (at_builtin; go_loud (refine wpList_app rfl _ _ _ rfl (w2.heap.size + 1) Try.underlying22 hi hz0 hz1 hz2 rfl (by omega) rfl (O4.out.alloc _) rfl (Rd.lit w4 #[.int .i64 q] _) (m := 1) rfl (nums_one .i64 [q]) (by omega) (by omega) (by simp; omega) ?_); intro v' w5 o5 g5 a5)
      have gg : w4.grownBy w5 _ := (World.grownBy_alloc w4 _ _).trans g5
      have notIt : ∀ b, Value.ownBlock _ = some b → w2.heap.size + 1 ≤ b := fun b hb => (O4.out.lt b hb).1
      have I5 := Lib.hid (show w5.heap[w2.heap.size]? = _ from (gg.block w2.heap.size i4 (fun e => by have := notIt _ e.symm; omega)).trans I4.out)
      have M5 := Lib.hid (show Mp w5 _ _ _ _ _ from ⟨(gg.block _ M4.out.lt (fun e => by have := notIt _ e.symm; omega)).trans M4.out.heap, M4.out.born, M4.out.nodup, M4.out.mem, M4.out.all⟩)
      have B6 := Lib.hid (B5.out.grown gg B5.out.size (fun b hb => by have := notIt b hb; omega))
      have O5 := Lib.hid (own_app1 o5 rfl)
      have ek : Hid (classesN (zs.take (k + 1)) = classesN (zs.take k) ++ [q]) := Lib.hid (by rw [classesN_step zs k LT.out, hq.out, hzz.out])
      clear o5 g5 a5 gg notIt
      go_roundw
      case rel => exact ⟨k + 1, LT.out, by rw [ek.out]; exact O5, I5, M5, B6⟩
      case measure =>
        rw [iter_at I5.out, iter_at hit.out]
        have := encAt_lt zs k LT.out
        have := encAt_step zs k LT.out
        have := enc1_pos (nth zs k)
        omega
end Go.Proofs.Ythhbikilighemaa
