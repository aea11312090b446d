/- Chapter 7: the program's map of what is open: the last one of a name, and what is closed. -/
import Derived.Test.YtkkojemnbcddfaaDoorZ0
import Derived.Test.YtkkojemnbcddfaaDoorO2
import Derived.Maps.RangeWalk
import Derived.Test.YtkkojemnbcddfaaDoorX4
namespace Go.Proofs.YtkkojemnbcddfaaDoor
open Go.RowKit Go.Maps

theorem LastV.hit {nm p : Int} {st : List Pr} {left left' : Lit → Bool} {v : Int} (h : LastV nm st left v) (hx : (p, nm) ∈ st) (hl : left' = fun z => left z && !z.sameKey (.int .i64 p)) (hp : 0 ≤ p) : LastV nm st left' (if v < p then p else v) := by
  subst hl
  right
  have key : ∀ y ∈ st, (fun z : Lit => left z && !z.sameKey (.int .i64 p)) (.int .i64 y.1) = false → y.2 = nm → y.1 ≤ (if v < p then p else v) := by
    intro y hy hf hn
    have hf : (left (.int .i64 y.1) && !(Lit.int .i64 y.1).sameKey (.int .i64 p)) = false := hf
    by_cases e : y.1 = p
    · split <;> omega
    · have s : (Lit.int .i64 y.1).sameKey (.int .i64 p) = false := Maps.sameKey_ne (by intro e2; injection e2 with _ e2; exact e e2)
      rw [s] at hf
      have hf : left (.int .i64 y.1) = false := by simpa using hf
      rcases h with ⟨_, h⟩ | ⟨_, h⟩
      · exact absurd hn (h y hy hf)
      · have := h y hy hf hn; split <;> omega
  refine ⟨?_, key⟩
  rcases h with ⟨rfl, _⟩ | ⟨⟨x, h1, h2, h3⟩, _⟩
  · exact ⟨(p, nm), hx, rfl, by rw [if_pos (show (-1 : Int) < p by omega)]⟩
  · by_cases e : v < p
    · exact ⟨(p, nm), hx, rfl, by rw [if_pos e]⟩
    · exact ⟨x, h1, h2, by rw [if_neg e]; exact h3⟩
theorem LastV.miss {nm p c : Int} {D : DataW Unit} {st : List Pr} {left left' : Lit → Bool} {v : Int} (h : LastV nm st left v) (hO : Opn D st) (hx : (p, c) ∈ st) (hc : c ≠ nm) (hl : left' = fun z => left z && !z.sameKey (.int .i64 p)) : LastV nm st left' v := by
  subst hl
  have key : ∀ y ∈ st, (fun z : Lit => left z && !z.sameKey (.int .i64 p)) (.int .i64 y.1) = false → y.2 = nm → left (.int .i64 y.1) = false := by
    intro y hy hf hn
    have hf : (left (.int .i64 y.1) && !(Lit.int .i64 y.1).sameKey (.int .i64 p)) = false := hf
    by_cases e : y.1 = p
    · obtain ⟨y1, y2⟩ := y
      have e : y1 = p := e
      have hn : y2 = nm := hn
      subst e; subst hn
      exact absurd (hO.val hx hy) hc
    · have s : (Lit.int .i64 y.1).sameKey (.int .i64 p) = false := Maps.sameKey_ne (by intro e2; injection e2 with _ e2; exact e e2)
      rw [s] at hf
      simpa using hf
  rcases h with ⟨hv, h⟩ | ⟨hx, h⟩
  · exact .inl ⟨hv, fun y hy hf hn => h y hy (key y hy hf hn) hn⟩
  · exact .inr ⟨hx, fun y hy hf hn => h y hy (key y hy hf hn) hn⟩
theorem grown_below {w w' : World} (h : w.grownBy w' none) : Below w.heap.size w w' := ⟨h.os, h.tape, h.output, h.size, fun i hi => h.block i hi (by simp)⟩
theorem grown_out {w w' : World} {b : Nat} (h : w.grownBy w' (some b)) : Out b (b + 1) w w' := ⟨h.os, h.tape, h.output, h.size, fun i hi hn => h.block i hi (by intro e; injection e with e; omega)⟩
theorem left_sub {left left' : Lit → Bool} {D : DataW Unit} {kx : Lit} (h : ∀ kl, left kl = true → Maps.has D kl = true) (hl : left' = fun z => left z && !z.sameKey kx) : ∀ kl, left' kl = true → Maps.has D kl = true := by
  subst hl
  intro kl hk
  exact h kl (by have hk : (left kl && !kl.sameKey kx) = true := hk; rw [Bool.and_eq_true] at hk; exact hk.1)
theorem opLaw : Keyed Tryd.prog 2 := int_keyed Tryd.underlying2
abbrev OwnMap (w : World) (b n : Nat) (D : DataW Unit) : Prop := w.ownsMap Tryd.prog 2 (plainElem Tryd.prog 2) b n D
theorem OwnMap.below {w w' : World} {b n : Nat} {D : DataW Unit} (h : OwnMap w b n D) (hb : Below w.heap.size w w') : OwnMap w' b n D := World.ownsMap.kept h (grown_of_below hb none) (by simp)
set_option maxRecDepth 100000 in
theorem lastOpen_any {w : World} {b n : Nat} {D : DataW Unit} {st : List Pr} (hown : OwnMap w b n D) (hO : Opn D st) (hup : st.Pairwise fun x y => x.1 < y.1) (h0 : ∀ x ∈ st, 0 ≤ x.1) (nm : Int) :
    Calls Tryd.prog 63 #[.map (some b), .int .i64 nm] w fun e w' => e = .returned (.int .i64 (lastP nm st)) ∧ Below w.heap.size w w' := by
  have HO := Lib.hid hO
  have HU := Lib.hid hup
  have H0 := Lib.hid h0
  clear hO hup h0
  go_enter Tryd.func63, Tryd.ntmps63
  go_wp2_with (first
    | (at_range; refine wpList_range_own _ rfl _ 76 rfl 2 2 opLaw Tryd.underlying76 _ b n _ rfl hown ?_; intro w0 hrg0 hg0 hs0)
    | go_in)
  go_frame
  go_loopw [5] (fun i wr => ∃ (v : Int) (left : Lit → Bool) (cnt : Nat), i = .int .i64 v ∧ wr.ranges Tryd.prog 2 (plainElem Tryd.prog 2) b w.heap.size n D left cnt ∧ Below w.heap.size w wr ∧ Hid (∀ kl, left kl = true → Maps.has D kl = true) ∧ Hid (LastV nm st left v))
    (fun _ wr => wr.rangeLeft b w.heap.size)
  case atStart => exact ⟨-1, _, _, rfl, hrg0, grown_below hg0, Lib.hid (fun _ h => h), Lib.hid (.inl ⟨rfl, fun x hx hf => by rw [HO.out.has] at hf; rw [List.any_eq_false] at hf; exact absurd (isK_self _) (hf x hx)⟩)⟩
  case round =>
    obtain ⟨v, left, cnt, rfl, hrg, hb, hs, hv⟩ := hrel
    go_wp2_with (first
      | (at_next; refine wpList_next_ranges_ii _ rfl _ rfl 2 2 .i64 .i64 opLaw Tryd.underlying2 Tryd.underlying2 b w.heap.size n _ _ _ rfl hrg ?_ ?_)
      | go_in)
    · intro _ hl0
      have E := Lib.hid (lastP_of hv.out hl0 HU.out)
      go_wp2
      go_ret
      exact ⟨rint E.out, hb⟩
    · intro x c w1 cnt1 hwx hwc hlx hat hrg1 hlt hg1 hs1 hen
      have hb1 : Below w.heap.size w w1 := hb.trans ⟨hg1.os, hg1.tape, hg1.output, hg1.size, fun i hi => hg1.block i (by have := hb.size; omega) (by intro e; injection e with e; omega)⟩
      have MEM := HO.out.mem (hs.out _ hlx) hat
      have NN := H0.out _ MEM
      have S1 := Lib.hid (left_sub (left' := fun z => left z && !z.sameKey (.int .i64 x)) hs.out rfl)
      by_cases hc : c = nm
      · have V1 := Lib.hid (LastV.hit (left' := fun z => left z && !z.sameKey (.int .i64 x)) hv.out (by rw [← hc]; exact MEM) rfl NN)
        have q : (c == nm) = true := by simp [hc]
        obtain ⟨m, hm⟩ : ∃ m, (if v < x then x else v) = m := ⟨_, rfl⟩
        rw [hm] at V1
        clear hc MEM NN
        go_wp2
        go_roundw
        case rel => exact ⟨m, _, cnt1, rfl, hrg1, hb1, S1, V1⟩
        case measure => rw [hrg1.left_eq, hrg.left_eq]; exact hlt
      · have V1 := Lib.hid (LastV.miss (left' := fun z => left z && !z.sameKey (.int .i64 x)) hv.out HO.out MEM hc rfl)
        have q : (c == nm) = false := by simpa using hc
        clear hc MEM NN
        go_wp2
        go_roundw
        case rel => exact ⟨v, _, cnt1, rfl, hrg1, hb1, S1, V1⟩
        case measure => rw [hrg1.left_eq, hrg.left_eq]; exact hlt
set_option maxRecDepth 100000 in
theorem closeFrom_any {w : World} {b n : Nat} {D : DataW Unit} {st : List Pr} (hown : OwnMap w b n D) (hO : Opn D st) (f : Int) :
    Calls Tryd.prog 64 #[.map (some b), .int .i64 f] w fun e w' => (e = .returned (.tuple #[]) ∧ ∃ D', OwnMap w' b n D' ∧ Opn D' (st.filter fun x => decide (x.1 < f))) ∧ Out b (b + 1) w w' := by
  have HO := Lib.hid hO
  clear hO
  go_enter Tryd.func64, Tryd.ntmps64
  go_wp2_with (first
    | (at_range; refine wpList_range_own _ rfl _ 76 rfl 2 2 opLaw Tryd.underlying76 _ b n _ rfl hown ?_; intro w0 hrg0 hg0 hs0)
    | go_in)
  go_frame
  go_loopw [4] (fun _ wr => ∃ (D' : DataW Unit) (left : Lit → Bool) (cnt : Nat), wr.ranges Tryd.prog 2 (plainElem Tryd.prog 2) b w.heap.size n D' left cnt ∧ w.grownBy wr (some b) ∧ Hid (Shut D' D f left))
    (fun _ wr => wr.rangeLeft b w.heap.size)
  case atStart => exact ⟨D, _, _, hrg0, hg0.but _, Lib.hid (Shut.start D f)⟩
  case round =>
    obtain ⟨D', left, cnt, hrg, hgw, hsh⟩ := hrel
    go_wp2_with (first
      | (at_next; refine wpList_next_ranges_ii _ rfl _ rfl 2 2 .i64 .i64 opLaw Tryd.underlying2 Tryd.underlying2 b w.heap.size n _ _ _ rfl hrg ?_ ?_)
      | go_in)
    · intro _ hl0
      have E := Lib.hid (hsh.out.done HO.out hl0)
      go_wp2
      go_end0
      exact ⟨⟨rfl, D', hrg.owns, E.out⟩, grown_out hgw⟩
    · intro x c w1 cnt1 hwx hwc hlx hat hrg1 hlt hg1 hs1 hen
      have hgw1 := hgw.andThen hg1 (fun j hj => by cases hj; exact Or.inl (Nat.le_refl _))
      by_cases hc : f ≤ x
      · have S1 := Lib.hid (hsh.out.del (left' := fun z => left z && !z.sameKey (.int .i64 x)) hc rfl)
        have q : decide (f ≤ x) = true := decide_eq_true hc
        have q2 : decide (x ≥ f) = true := decide_eq_true hc
        clear hc
        go_wp2_with (first
          | (at_delete; refine wpList_delete_ranges _ rfl _ _ 76 2 rfl 2 opLaw Tryd.underlying76 _ b w.heap.size n _ _ _ rfl hrg1 _ _ rfl (keyOf_int_mk Tryd.underlying2 hwx) ?_; intro w2 cnt2 hrg2 hle hturn; go_frame)
          | go_in)
        rw [strike_twice] at hrg2
        go_roundw
        case rel => exact ⟨_, _, cnt2, hrg2, hgw1.andThen hturn.grown (fun j hj => by cases hj; exact Or.inr rfl), S1⟩
        case measure => rw [hrg2.left_eq, hrg.left_eq]; omega
      · have S1 := Lib.hid (hsh.out.stay (left' := fun z => left z && !z.sameKey (.int .i64 x)) (by omega) rfl)
        have q : decide (f ≤ x) = false := decide_eq_false hc
        have q2 : decide (x ≥ f) = false := decide_eq_false hc
        clear hc
        go_wp2
        go_roundw
        case rel => exact ⟨_, _, cnt1, hrg1, hgw1, S1⟩
        case measure => rw [hrg1.left_eq, hrg.left_eq]; exact hlt
end Go.Proofs.YtkkojemnbcddfaaDoor
