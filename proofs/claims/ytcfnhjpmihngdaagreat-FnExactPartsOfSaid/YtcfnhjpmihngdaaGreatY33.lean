/- Chapter 5: slices.Backward. -/
import Derived.Test.YtcfnhjpmihngdaaGreatY31
import Derived.Test.YtcfnhjpmihngdaaGreatY06
import Derived.Test.YtcfnhjpmihngdaaGreatY08
import Derived.WalkMore
import Derived.BigQuiet
import Derived.Test.YtcfnhjpmihngdaaGreatY07
import Derived.RangeFuncNested
import Derived.RangeFuncBound
import Derived.RangeFuncBox
import Derived.RangeFuncCalls
import Derived.RangeFuncLeaves
import Derived.Shelf.Abstract
import Derived.Shelf.RegionOpen
import Derived.OwnWalkIn
import Derived.TacticsInMore
import Derived.LoopNIn
import Derived.LoopIn
namespace Go.Proofs.YtcfnhjpmihngdaaGreat
open Go.RowKit Go.Maps

/-- where the program's cutting stands: R is cut, what is kept from f on and ahead of t is of one level -/
structure Cut (ls : List Int) (f t : Nat) (R : List (List Int)) : Prop where
  le : f ≤ t
  top : t ≤ (keptL ls).length
  open_ : f < t → (grun (lev ls) ((keptL ls).take t)).done = R ∧ (grun (lev ls) ((keptL ls).take t)).now = ((keptL ls).take t).drop f ∧ (grun (lev ls) ((keptL ls).take t)).val = lev ls (nth (keptL ls) f)
  shut : f = t → (grun (lev ls) ((keptL ls).take t)).out = R ∧ (t < (keptL ls).length → lev ls (nth (keptL ls) t) ≠ (grun (lev ls) ((keptL ls).take t)).val)
theorem kept_lev {ls : List Int} {k : Nat} (h : k < (keptL ls).length) : lev ls (nth (keptL ls) k) ≠ -1 := (keptN_mem (k := ls.length) (nth_mem h)).2.2
theorem kept_place {ls : List Int} {k : Nat} (h : k < (keptL ls).length) : 0 ≤ nth (keptL ls) k ∧ nth (keptL ls) k < ls.length := by
  have := keptN_mem (k := ls.length) (nth_mem h)
  exact ⟨this.1, this.2.1⟩
theorem Cut.zero (ls : List Int) : Cut ls 0 0 [] := ⟨Nat.le_refl _, by omega, fun h => by omega, fun _ => ⟨rfl, fun h => kept_lev h⟩⟩
theorem Cut.end_ {ls : List Int} {t : Nat} {R : List (List Int)} (h : Cut ls (keptL ls).length t R) : R = runsN ls := by
  have e : t = (keptL ls).length := by have := h.le; have := h.top; omega
  subst e
  have := (h.shut rfl).1
  rw [List.take_of_length_le (Nat.le_refl _)] at this
  exact this.symm
theorem Cut.lt {ls : List Int} {f t : Nat} {R : List (List Int)} (h : Cut ls f t R) (hf : f < (keptL ls).length) (hc : t = (keptL ls).length ∨ lev ls (nth (keptL ls) t) ≠ lev ls (nth (keptL ls) f)) : f < t := by
  have := h.le
  rcases hc with hc | hc
  · omega
  · apply Classical.byContradiction
    intro hn
    obtain rfl : f = t := by omega
    exact hc rfl
theorem Cut.cut {ls : List Int} {f t : Nat} {R : List (List Int)} (h : Cut ls f t R) (hf : f < (keptL ls).length) (hc : t = (keptL ls).length ∨ lev ls (nth (keptL ls) t) ≠ lev ls (nth (keptL ls) f)) : Cut ls t t (R ++ [((keptL ls).take t).drop f]) := by
  have hlt := h.lt hf hc
  have ht := h.top
  obtain ⟨o1, o2, o3⟩ := h.open_ hlt
  refine ⟨Nat.le_refl _, ht, fun h => by omega, fun _ => ⟨?_, fun h => ?_⟩⟩
  · rw [out_full (by rw [o2, List.length_drop, List.length_take]; omega), o1, o2]
  · rw [o3]
    rcases hc with hc | hc
    · omega
    · exact hc
theorem Cut.on {ls : List Int} {f t : Nat} {R : List (List Int)} (h : Cut ls f t R) (ht : t < (keptL ls).length) (hc : lev ls (nth (keptL ls) t) = lev ls (nth (keptL ls) f)) : Cut ls f (t + 1) R := by
  have hle := h.le
  refine ⟨by omega, ht, fun _ => ?_, fun h => by omega⟩
  rw [grun_step _ _ _ ht]
  by_cases hlt : f < t
  · obtain ⟨o1, o2, o3⟩ := h.open_ hlt
    unfold gstep
    rw [if_pos (by rw [o3]; exact hc)]
    refine ⟨o1, ?_, o3⟩
    show _ ++ _ = _
    rw [o2, take_nth _ _ ht, List.drop_append_of_le_length (by rw [List.length_take]; omega)]
  · obtain rfl : f = t := by omega
    obtain ⟨s1, s2⟩ := h.shut rfl
    unfold gstep
    rw [if_neg (s2 ht)]
    refine ⟨s1, ?_, rfl⟩
    show [_] = _
    rw [take_nth _ _ ht, List.drop_append_of_le_length (by rw [List.length_take]; omega), List.drop_of_length_le (by rw [List.length_take]; omega), List.nil_append]
theorem Cut.len {ls : List Int} {f t : Nat} {R : List (List Int)} (h : Cut ls f t R) : R.length ≤ f ∧ total R ≤ f := by
  have key : total R ≤ f ∧ ∀ r ∈ R, r ≠ [] := by
    have wf : WfG (lev ls) (grun (lev ls) ((keptL ls).take t)) := grun_wf fun x hx => (keptN_mem (k := ls.length) (List.mem_of_mem_take hx)).2.2
    have tk : ((keptL ls).take t).length = t := by rw [List.length_take]; have := h.top; omega
    have fl := grun_flat (lev ls) ((keptL ls).take t)
    by_cases hlt : f < t
    · obtain ⟨o1, o2, o3⟩ := h.open_ hlt
      rw [out_flat, o1, o2] at fl
      have := congrArg List.length fl
      rw [List.length_append, flat_len, List.length_drop, tk] at this
      exact ⟨by omega, fun r hr => (wf.each r (by rw [o1]; exact hr)).1⟩
    · have hle := h.le
      obtain rfl : f = t := by omega
      obtain ⟨s1, s2⟩ := h.shut rfl
      rw [s1] at fl
      have := congrArg List.length fl
      rw [flat_len, tk] at this
      exact ⟨by omega, fun r hr => (wf.out r (by rw [s1]; exact hr)).1⟩
  have := len_le_total R key.2
  exact ⟨by omega, key.1⟩
theorem sub_slice {zs : List Int} (f t : Nat) (ht : t ≤ zs.length) : ((zs.take t).drop f).length = t - f := by rw [List.length_drop, List.length_take]; omega
/-- a part of a slice that reads -/
theorem Rd.part {kd : IntKind} {w : World} {B : Nat} {b off : Nat} {zs : List Int} (h : Rd w B (some ⟨b, off, none⟩) (nums kd zs)) (f t : Nat) : Rd w B (some ⟨b, off + f, none⟩) (nums kd ((zs.take t).drop f)) := by
  intro k u hu
  have e : nums kd ((zs.take t).drop f) = ((nums kd zs).take t).drop f := by simp [nums, List.map_take, List.map_drop]
  rw [e, List.getElem?_drop, List.getElem?_take] at hu
  split at hu
  · obtain ⟨b', off', e1, h1, h2⟩ := h _ u hu
    injection e1 with e1
    injection e1 with e2 e3
    subst e2; subst e3
    exact ⟨_, _, rfl, h1, by rw [Nat.add_assoc]; exact h2⟩
  · cases hu

set_option maxRecDepth 100000 in
set_option maxHeartbeats 2000000 in
theorem runsAmong_any (A : Option Addr) (ls : List Int) (c : Nat) (w : World) (B : Nat) (h1 : Rd w B A (nums .i64 ls)) (hB : B ≤ w.heap.size) (hl : ls.length ≤ 600) :
    Calls Tryz.prog 82 #[.slice A ls.length c] w fun e w' => (∃ v, e = .returned v ∧ OwnSS w' w.heap.size w'.heap.size 22 2 .i64 v (runsN ls)) ∧ Below w.heap.size w w' := by
  obtain ⟨i1, ki, kz0, kz1, kz2⟩ := info_parts info_ints
  have H1 := Lib.hid h1
  clear h1
  go_enter Tryz.func82, Tryz.ntmps82
  go_wp2
  go_step3
  go_wp2_with fail
  refine (keptAmong_any A ls c w B H1.out hB hl).mono ?_
  rintro e w1 ⟨⟨v1, rfl, o1⟩, b1⟩
  obtain ⟨A1, c1, rfl⟩ := o1.form
  have KL : Hid ((keptL ls).length ≤ ls.length) := Lib.hid (keptN_len ls ls.length)
  obtain ⟨m, hm⟩ : ∃ m, Hid (m = (keptL ls).length) := ⟨_, Lib.hid rfl⟩
  rw [← hm.out] at KL ⊢
  have hml : m ≤ 600 := by have := KL.out; omega
  have R1 := Lib.hid (Rd.of o1.1)
  have cp : m ≤ c1 := by have := (own_cap o1.1).1; rw [← hm.out] at this; exact this
  have B1 := Lib.hid b1
  have L1 := Lib.hid (H1.out.below b1 hB)
  have s1 := b1.size
  have T0 : Hid (OwnC w1 w1.heap.size w1.heap.size 22 1 (.slice none 0 0) ([] : List (List Int)).length [] (contsL 2 .i64 [])) := Lib.hid (OwnC.nil w1 _ _ _ 1)
  have C0 := Lib.hid (Cut.zero ls)
  clear o1 b1
  go_wp2
  go_step3
  go_wp2
  go_loopw [4, 5, 6] (fun vR vf vt wr => ∃ (f t : Nat) (R : List (List Int)) (us : List Value), f ≤ t ∧ t ≤ m ∧ vf = .int .i64 f ∧ vt = .int .i64 t ∧ Hid (Cut ls f t R) ∧
    Hid (OwnC wr w1.heap.size wr.heap.size 22 1 vR R.length us (contsL 2 .i64 R)) ∧ Hid (Below w1.heap.size w1 wr)) (fun _ f t _ => 2 * m - (intOf f).toNat - (intOf t).toNat)
  case atStart => exact ⟨0, 0, [], [], by omega, by omega, rfl, rfl, C0, T0, Lib.hid (Below.refl _ _)⟩
  case round =>
    clear T0 C0
    obtain ⟨f, t, R, us, hft, htm, rfl, rfl, hcut, ho, hbr⟩ := hrel
    have wsz := hbr.out.size
    obtain ⟨AR, cR, rfl⟩ := own_form ho.out.row
    by_cases hf : f = m
    · have ER := Lib.hid (show R = runsN ls from (by have := hcut.out; rw [show f = (keptL ls).length by rw [hf, hm.out]] at this; exact this.end_))
      have HO := Lib.hid (show OwnSS wr w.heap.size wr.heap.size 22 2 .i64 (.slice AR R.length cR) R from (show OwnSS wr w1.heap.size wr.heap.size 22 2 .i64 (.slice AR R.length cR) R from ⟨us, ho.out⟩).more s1 (Nat.le_refl _))
      have fe : (((f : Nat) : Int) == ((m : Nat) : Int)) = true := by simp [hf]
      have BB := Lib.hid (B1.out.trans (hbr.out.mono (by omega)))
      clear hf ho hcut
      go_wp2
      rw [Exit.noGoto_ret]
      go_ret
      exact ⟨⟨_, rfl, by rw [← ER.out]; exact HO.out⟩, BB.out⟩
    · have fe : (((f : Nat) : Int) == ((m : Nat) : Int)) = false := by simp; omega
      have flt : f < m := by omega
      obtain ⟨bk, ok, rfl, hbk, hck⟩ := (R1.out.below hbr.out (Nat.le_refl _)).int (by rw [← hm.out]; omega)
      have pf := kept_place (ls := ls) (k := f) (by rw [← hm.out]; exact flt)
      obtain ⟨x, hx⟩ : ∃ x : Nat, Hid (nth (keptL ls) f = (x : Int)) := ⟨(nth (keptL ls) f).toNat, Lib.hid (by show nth _ _ = _; omega)⟩
      have kf := hck f (by rw [← hm.out]; exact flt)
      rw [hx.out] at kf pf
      obtain ⟨bl, ol, rfl, hbl, hcl⟩ := ((L1.out.below hbr.out (by omega))).int (by omega)
      have lf := hcl x (by omega)
      have LF := Lib.hid (show lev ls (nth (keptL ls) f) = nth ls x by rw [hx.out]; simp [lev])
      obtain ⟨p, hp⟩ : ∃ p, Hid (p = nth ls x) := ⟨_, Lib.hid rfl⟩
      rw [← hp.out] at lf LF
      have RDK := Lib.hid (R1.out.below hbr.out (Nat.le_refl _))
      have hcf : ¬ c1 = f := by omega
      -- the cut, wherever the test came out so
      have CUTS : Hid (t = m ∨ lev ls (nth (keptL ls) t) ≠ p → Cut ls t t (R ++ [((keptL ls).take t).drop f]) ∧ f < t) := Lib.hid fun h => by
        have h2 : t = (keptL ls).length ∨ lev ls (nth (keptL ls) t) ≠ lev ls (nth (keptL ls) f) := by rw [LF.out, ← hm.out]; exact h
        exact ⟨hcut.out.cut (by rw [← hm.out]; exact flt) h2, hcut.out.lt (by rw [← hm.out]; exact flt) h2⟩
      have CLEN := Lib.hid hcut.out.len
      have ON : Hid (t < m → lev ls (nth (keptL ls) t) = p → Cut ls f (t + 1) R) := Lib.hid fun h1 h2 => hcut.out.on (by rw [← hm.out]; exact h1) (by rw [LF.out]; exact h2)
      have HO := Lib.hid ho.out
      have rl1 : R.length ≤ 600 := by have := CLEN.out.1; omega
      clear hcut ho hf CLEN
      obtain ⟨zs, hzs⟩ : ∃ zs, Hid (zs = ((keptL ls).take t).drop f) := ⟨_, Lib.hid rfl⟩
      have ZL : Hid (zs.length = t - f) := Lib.hid (by rw [hzs.out]; exact sub_slice f t (by rw [← hm.out]; exact htm))
      have SZ : Hid (Sees wr w1.heap.size .i64 (.slice (some ⟨bk, ok + f, none⟩) (t - f) (c1 - f)) zs) := Lib.hid ⟨_, _, by rw [ZL.out], by rw [hzs.out]; exact RDK.out.part f t⟩
      rw [← hzs.out] at CUTS
      have STEP : Hid (∀ (wd : World) (n5 : Nat) (v5 : Value) (w5 w6 : World) (vR' : Value), wd = wr.drewN n5 → Own w5 wd.heap.size w5.heap.size 2 .i64 v5 zs → Below wd.heap.size wd w5 → 
          w6.ownsRow w1.heap.size 22 1 vR' (R.length + 1) (us ++ [v5]) → (w5.alloc (.cells #[v5] 22)).grownBy w6 (Value.slice AR R.length cR).ownBlock → (vR'.ownBlock = (Value.slice AR R.length cR).ownBlock ∨ vR'.ownBlock = some (w5.alloc (.cells #[v5] 22)).heap.size) →
          OwnC w6 w1.heap.size w6.heap.size 22 1 vR' (R ++ [zs]).length (us ++ [v5]) (contsL 2 .i64 (R ++ [zs])) ∧ Below w1.heap.size w1 w6) := Lib.hid (by
        intro wd n5 v5 w5 w6 vR' hwd o5 b5 o6 g6 a6
        subst hwd
        have o5' : Own w5 wr.heap.size w5.heap.size 2 .i64 v5 zs := o5
        have s5 : wr.heap.size ≤ w5.heap.size := b5.size
        have r5 : OwnC w5 w1.heap.size wr.heap.size 22 1 (.slice AR R.length cR) R.length us (contsL 2 .i64 R) := (HO.out.drew n5).below b5 (Nat.le_refl _)
        have T5 : Two w5 w1.heap.size w5.heap.size 22 2 (.slice AR R.length cR) v5 R zs us := by
          refine ⟨r5.more (Nat.le_refl _) s5, o5'.more (by omega) (Nat.le_refl _), fun i y hy => ?_, ?_⟩
          · by_cases hn : y.ownBlock = none
            · exact .inl hn
            · refine .inr fun e2 => ?_
              obtain ⟨g, hg⟩ := Option.ne_none_iff_exists'.1 hn
              have h1 := r5.lts i y g hy hg
              have h2 := o5'.lt g (by rw [← e2, hg])
              omega
          · by_cases hn : v5.ownBlock = none
            · exact .inl hn
            · refine .inr fun e2 => ?_
              obtain ⟨g, hg⟩ := Option.ne_none_iff_exists'.1 hn
              have h1 := o5'.lt g hg
              have h2 := r5.vlt g (by rw [← e2, hg])
              omega
        have T6 := (T5.alloc (.cells #[v5] 22)).push (by simp) o6 g6 a6
        refine ⟨T6, ?_⟩
        have b6 : Below w1.heap.size w1 w5 := (below_drewN hbr.out n5).trans (b5.mono (by simpa using wsz))
        exact b6.grown ((World.grownBy_alloc w5 _ _).trans g6) b6.size (fun b hb => (r5.vlt b hb).1))
      by_cases ht : t = m
      · have te : (((t : Nat) : Int) == ((m : Nat) : Int)) = true := by simp [ht]
        obtain ⟨cu, fl⟩ := CUTS.out (.inl ht)
        have CU := Lib.hid cu
        clear cu ht
        go_wp2
        go_quiet (fail)
        go_wp2_with (first
          | (go_at_call 71; refine (cloneInt_own (.slice (some ⟨bk, ok + f, none⟩) (t - f) (c1 - f)) zs _ w1.heap.size (SZ.out.drew _) (by simpa using wsz) (by rw [ZL.out]; omega)).mono ?_; rintro e w5 ⟨⟨v5, rfl, o5⟩, b5⟩; obtain ⟨A5, c5, rfl⟩ := o5.form; have OR5 := Lib.hid ((HO.out.drew _).below b5 (Nat.le_refl _)).row; have s5 : wr.heap.size ≤ w5.heap.size := b5.size)
          | (at_builtin; go_loud (refine wpList_app rfl _ _ _ rfl w1.heap.size Tryz.underlying63 ki kz0 kz1 kz2 rfl (by omega) rfl (OR5.out.alloc _) rfl (Rd.lit w5 #[.slice A5 zs.length c5] _) (m := 1) rfl (slice_one _ _ _) (by omega) (by omega) (by simp; omega) ?_); intro v6 w6 o6 g6 a6; obtain ⟨A6, c6, rfl⟩ := own_form o6; obtain ⟨f1, f2⟩ := STEP.out _ _ _ _ _ _ rfl o5 b5 o6 g6 a6; have F1 := Lib.hid f1; have F2 := Lib.hid f2; clear f1 f2 o6 g6 a6 o5 b5))
        go_roundw
        case rel => exact ⟨t, t, R ++ [zs], _, by omega, by omega, rfl, rfl, CU, F1, F2⟩
        case measure => first | omega | (simp [intOf]; omega)
      · have te : (((t : Nat) : Int) == ((m : Nat) : Int)) = false := by simp; omega
        have tlt : t < m := by omega
        have pt := kept_place (ls := ls) (k := t) (by rw [← hm.out]; exact tlt)
        obtain ⟨y, hy⟩ : ∃ y : Nat, Hid (nth (keptL ls) t = (y : Int)) := ⟨(nth (keptL ls) t).toNat, Lib.hid (by show nth _ _ = _; omega)⟩
        have kt := hck t (by rw [← hm.out]; exact tlt)
        rw [hy.out] at kt pt
        have lt := hcl y (by omega)
        have LT := Lib.hid (show lev ls (nth (keptL ls) t) = nth ls y by rw [hy.out]; simp [lev])
        obtain ⟨q, hq⟩ : ∃ q, Hid (q = nth ls y) := ⟨_, Lib.hid rfl⟩
        rw [← hq.out] at lt LT
        clear hck hcl ht
        by_cases hpq : q = p
        · have qe : (q != p) = false := by simp [hpq]
          have CU := Lib.hid (ON.out tlt (by rw [LT.out]; exact hpq))
          clear hpq
          go_wp2
          go_quiet (fail)
          go_wp2
          go_roundw
          case rel => exact ⟨f, t + 1, R, us, by omega, by omega, rfl, by go_num, CU, HO.out.drew _, below_drewN hbr.out _⟩
          case measure => first | omega | (simp [intOf]; omega)
        · have qe : (q != p) = true := by simpa using hpq
          obtain ⟨cu, fl⟩ := CUTS.out (.inr (by rw [LT.out]; exact hpq))
          have CU := Lib.hid cu
          clear cu hpq
          go_wp2
          go_quiet (fail)
          go_wp2_with (first
            | (go_at_call 71; refine (cloneInt_own (.slice (some ⟨bk, ok + f, none⟩) (t - f) (c1 - f)) zs _ w1.heap.size (SZ.out.drew _) (by simpa using wsz) (by rw [ZL.out]; omega)).mono ?_; rintro e w5 ⟨⟨v5, rfl, o5⟩, b5⟩; obtain ⟨A5, c5, rfl⟩ := o5.form; have OR5 := Lib.hid ((HO.out.drew _).below b5 (Nat.le_refl _)).row; have s5 : wr.heap.size ≤ w5.heap.size := b5.size)
            | (at_builtin; go_loud (refine wpList_app rfl _ _ _ rfl w1.heap.size Tryz.underlying63 ki kz0 kz1 kz2 rfl (by omega) rfl (OR5.out.alloc _) rfl (Rd.lit w5 #[.slice A5 zs.length c5] _) (m := 1) rfl (slice_one _ _ _) (by omega) (by omega) (by simp; omega) ?_); intro v6 w6 o6 g6 a6; obtain ⟨A6, c6, rfl⟩ := own_form o6; obtain ⟨f1, f2⟩ := STEP.out _ _ _ _ _ _ rfl o5 b5 o6 g6 a6; have F1 := Lib.hid f1; have F2 := Lib.hid f2; clear f1 f2 o6 g6 a6 o5 b5))
          go_roundw
          case rel => exact ⟨t, t, R ++ [zs], _, by omega, by omega, rfl, rfl, CU, F1, F2⟩
          case measure => first | omega | (simp [intOf]; omega)
end Go.Proofs.YtcfnhjpmihngdaaGreat

namespace Go.Proofs.YtcfnhjpmihngdaaGreat
open Go.RowKit Go.Maps

/-- the state after k levels -/
def srun (ls : List Int) (k : Nat) : GS := grun (lev ls) (keptN ls k)
theorem srun_gone {ls : List Int} {k : Nat} (h : nth ls k = -1) : srun ls (k + 1) = srun ls k := by unfold srun; rw [keptN_gone h]
theorem srun_kept {ls : List Int} {k : Nat} (h : nth ls k ≠ -1) : srun ls (k + 1) = gstep (lev ls) (srun ls k) (k : Int) := by unfold srun; rw [keptN_kept h, grun_app]
theorem srun_wf (ls : List Int) (k : Nat) : WfG (lev ls) (srun ls k) := grun_wf fun _ hx => (keptN_mem hx).2.2
theorem lev_nat (ls : List Int) (k : Nat) : lev ls (k : Int) = nth ls k := by simp [lev]
theorem srun_len (ls : List Int) (k : Nat) : (srun ls k).out.length ≤ k ∧ total (srun ls k).out ≤ k := by
  have h1 : total (srun ls k).out ≤ k := by rw [← flat_len]; unfold srun; rw [grun_flat]; exact keptN_len ls k
  have := len_le_total _ fun r hr => ((srun_wf ls k).out r hr).1
  exact ⟨by omega, h1⟩
theorem total_two (D : List (List Int)) (N : List Int) : total (D ++ [N]) = total D + N.length := by rw [total_app, total_one]

set_option maxRecDepth 100000 in
set_option maxHeartbeats 2000000 in
theorem l5Runs_any (A : Option Addr) (ls : List Int) (c : Nat) (w : World) (B : Nat) (h1 : Rd w B A (nums .i64 ls)) (hB : B ≤ w.heap.size) (hl : ls.length ≤ 600) :
    Calls Tryz.prog 30 #[.slice A ls.length c] w fun e w' => (∃ v, e = .returned v ∧ OwnSS w' w.heap.size w'.heap.size 22 2 .i64 v (runsN ls)) ∧ Below w.heap.size w w' := by
  obtain ⟨i0, hi, hz0, hz1, hz2⟩ := info_parts info_int64
  obtain ⟨i1, ki, kz0, kz1, kz2⟩ := info_parts info_ints
  have H1 := Lib.hid h1
  clear h1
  obtain ⟨n, hn⟩ : ∃ n, Hid (n = ls.length) := ⟨_, Lib.hid rfl⟩
  rw [← hn.out] at hl ⊢
  have O0 : Hid (OwnC (w.alloc (.cells #[] 22)) w.heap.size (w.heap.size + 1) 22 1 (.slice (some ⟨w.heap.size, 0, none⟩) 0 0) (srun ls 0).out.length [] (contsL 2 .i64 (srun ls 0).out)) := Lib.hid
      ⟨own_new w _ #[] 0 rfl (by omega), fun g hg => by simp [Value.ownBlock] at hg; omega, fun k c hc => by simp [contsL, srun, keptN, grun, GS.out] at hc, fun k u hu => by simp at hu, fun i j u u' _ hu => by simp at hu, fun k u hu => by simp at hu⟩
  have B0 := Lib.hid ((Below.refl w.heap.size w).alloc (Nat.le_refl _) (.cells #[] 22))
  go_enter Tryz.func30, Tryz.ntmps30
  go_wp2
  go_loopw [3, 4, 5] (fun v x i wr => ∃ (k : Nat) (us : List Value), k ≤ n ∧ i = .int .i64 k ∧ x = .int .i64 (srun ls k).val ∧ Hid (OwnC wr w.heap.size wr.heap.size 22 1 v (srun ls k).out.length us (contsL 2 .i64 (srun ls k).out)) ∧ Hid (Below w.heap.size w wr)) (fun _ _ i _ => n - (intOf i).toNat)
  case atStart => exact ⟨0, [], by omega, rfl, rfl, Lib.hid (by have := O0.out.more (Nat.le_refl _) (show w.heap.size + 1 ≤ (w.alloc (.cells #[] 22)).heap.size by simp); exact this), B0⟩
  case round =>
    clear O0 B0
    obtain ⟨k, us, hk, rfl, rfl, ho, hbr⟩ := hrel
    have hbs := hbr.out.size
    obtain ⟨AR, cR, rfl⟩ := own_form ho.out.row
    by_cases hlt : k < n
    · obtain ⟨b, off, rfl, hb, hc⟩ := (H1.out.below hbr.out (by omega)).int (by rw [← hn.out]; omega)
      have hc0 := hc k (by rw [← hn.out]; exact hlt)
      have SL := srun_len ls k
      have s1 : (srun ls k).out.length ≤ 600 := by omega
      clear hc SL
      by_cases hg : nth ls k = -1
      · have E := Lib.hid (srun_gone hg)
        rw [hg] at hc0
        have HO := Lib.hid (show OwnC wr w.heap.size wr.heap.size 22 1 (.slice AR (srun ls k).out.length cR) (srun ls (k + 1)).out.length us (contsL 2 .i64 (srun ls (k + 1)).out) by rw [E.out]; exact ho.out)
        have EV := Lib.hid (show (srun ls k).val = (srun ls (k + 1)).val by rw [E.out])
        clear hg ho
        go_wp2
        go_roundw
        case rel => exact ⟨k + 1, us, by omega, by go_num, by rw [EV.out], HO, hbr⟩
        case measure => first | omega | (simp [intOf]; omega)
      · have E := Lib.hid (srun_kept hg)
        have WF := Lib.hid (srun_wf ls k)
        have LN := Lib.hid (lev_nat ls k)
        have TL := Lib.hid (srun_len ls k)
        have hne : (nth ls k == -1) = false := by simpa using hg
        obtain ⟨q, hq⟩ : ∃ q, Hid (q = nth ls k) := ⟨_, Lib.hid rfl⟩
        rw [← hq.out] at hc0 hne LN
        obtain ⟨S, hS⟩ : ∃ S, Hid (S = srun ls k) := ⟨_, Lib.hid rfl⟩
        rw [← hS.out] at ho s1 E WF TL ⊢
        have HG := Lib.hid (show q ≠ -1 by rw [hq.out]; exact hg)
        clear hg
        by_cases hv : q = S.val
        · -- it goes on
          have he : (q != S.val) = false := by simp [hv]
          have hn0 : S.now.length ≠ 0 := fun h => HG.out (by rw [hv]; exact (WF.out.none h).1)
          have EO := Lib.hid (out_full hn0)
          have E2 := Lib.hid (show (srun ls (k + 1)).out = S.done ++ [S.now ++ [(k : Int)]] by rw [E.out]; exact gstep_on _ _ _ (by rw [LN.out]; exact hv))
          have E3 := Lib.hid (show (srun ls (k + 1)).val = S.val by rw [E.out]; unfold gstep; rw [if_pos (by rw [LN.out]; exact hv)])
          have tl := TL.out.2
          rw [EO.out, total_two] at tl
          have tl2 : S.now.length ≤ 600 := by omega
          have oe := EO.out
          obtain ⟨D, hD⟩ : ∃ D, Hid (D = S.done) := ⟨_, Lib.hid rfl⟩
          obtain ⟨N, hN⟩ : ∃ N, Hid (N = S.now) := ⟨_, Lib.hid rfl⟩
          rw [← hD.out, ← hN.out] at oe E2
          rw [← hN.out] at tl2
          rw [oe] at ho s1
          have lD : (D ++ [N]).length = D.length + 1 := by simp
          have H5 := Lib.hid (show OwnC wr w.heap.size wr.heap.size 22 1 (.slice AR (D.length + 1) cR) (D ++ [N]).length us (contsL 2 .i64 (D ++ [N])) by rw [← lD]; exact ho.out)
          rw [lD] at s1
          have oel : S.out.length = D.length + 1 := by rw [oe]; simp
          rw [oel]
          clear oe oel hn0 tl ho lD hv
          obtain ⟨gv, cv, u5, ev, cvl, hu5, cu5, ru5, gvl, gvh, uo5⟩ := H5.out.lastAt
          injection ev with ev1 ev2 ev3
          subst ev1; subst ev3
          clear ev2
          obtain ⟨Au, cu, rfl⟩ := own_form ru5
          have RU := Lib.hid ru5
          have CU5 := Lib.hid cu5
          have HU5 := Lib.hid hu5
          have UO5 := Lib.hid uo5
          have RW := Lib.hid (show wr.ownsRow w.heap.size 22 1 (.slice (some ⟨gv, 0, none⟩) (D.length + 1) cR) (D.length + 1) us by have := H5.out.row; simpa using this)
          clear ru5 hu5 uo5
          go_wp2_with (first
            | (at_builtin; go_loud (refine wpList_app rfl _ _ _ rfl w.heap.size Tryz.underlying22 hi hz0 hz1 hz2 rfl (by omega) rfl (RU.out.alloc _) rfl (Rd.lit wr #[.int .i64 k] _) (m := 1) rfl (nums_one .i64 [(k : Int)]) (by omega) (by omega) (by simp; omega) ?_); intro v6 w6 o6 g6 a6; obtain ⟨A6, c6, rfl⟩ := own_form o6; have R6 := Lib.hid ((RW.out.alloc (.cells #[.int .i64 k] 2)).kept g6 (own_ne_symm UO5.out)))
            | (refine wpList_put rfl _ _ _ rfl i1 ki kz1 D.length (.slice A6 (N.length + 1) c6) rfl rfl rfl R6.out (by omega) ?_; intro w7 o7 g7))
          have b7 : Below w.heap.size w w7 := (hbr.out.alloc hbs (.cells #[.int .i64 k] 2)).grown g6 (by simp; omega) (fun b hb => (RU.out.lt b hb).1) |>.grown g7 (by have := g6.size; simp at this; omega) (fun b hb => by injection hb with hb; omega)
          have HL := (H5.out.alloc (.cells #[.int .i64 k] 2)).last HU5.out (by simp) o6 g6 a6 (by simpa using o7) g7
          rw [← E2.out] at HL
          have HL2 := Lib.hid HL
          have B7 := Lib.hid b7
          clear HL b7 o6 g6 a6 o7 g7
          go_roundw
          case rel => exact ⟨k + 1, _, by omega, by go_num, by rw [E3.out], HL2, B7⟩
          case measure => first | omega | (simp [intOf]; omega)
        · -- a new one
          have he : (q != S.val) = true := by simpa using hv
          obtain ⟨N, hN⟩ : ∃ N : List Int, Hid (N = []) := ⟨_, Lib.hid rfl⟩
          have E2 := Lib.hid (show (srun ls (k + 1)).out = S.out ++ [N ++ [(k : Int)]] by rw [E.out, hN.out]; exact gstep_out _ _ _ (by rw [LN.out]; exact hv))
          have E3 := Lib.hid (show (srun ls (k + 1)).val = q by rw [E.out]; unfold gstep; rw [if_neg (by rw [LN.out]; exact hv)]; exact LN.out)
          obtain ⟨D, hD⟩ : ∃ D, Hid (D = S.out) := ⟨_, Lib.hid rfl⟩
          have nl : N.length ≤ 600 := by rw [hN.out]; simp
          rw [← hD.out] at ho E2 s1 ⊢
          have T1 := Lib.hid ((Two.fresh ho.out (by omega) (Nat.le_refl _)).alloc (.cells #[.slice (some ⟨wr.heap.size, 0, none⟩) 0 0] 22))
          have HC1 : Hid (((wr.alloc (.cells #[] 2)).alloc (.cells #[.slice (some ⟨wr.heap.size, 0, none⟩) 0 0] 22)).cell? ⟨b, off + k, none⟩ = some (.int .i64 q)) := Lib.hid
            (((((Below.refl wr.heap.size wr).alloc (Nat.le_refl _) (.cells #[] 2)).alloc (by simp) (.cells #[.slice (some ⟨wr.heap.size, 0, none⟩) 0 0] 22)).cell (p := ⟨b, off + k, none⟩) (show b < wr.heap.size by omega)).trans hc0)
          have RL : Hid (Rd ((wr.alloc (.cells #[] 2)).alloc (.cells #[.slice (some ⟨wr.heap.size, 0, none⟩) 0 0] 22)) (wr.heap.size + 1 + 1) (some ⟨wr.heap.size + 1, 0, none⟩) [.slice (some ⟨wr.heap.size, 0, none⟩) 0 0]) := Lib.hid
            (by have := Rd.lit (wr.alloc (.cells #[] 2)) #[.slice (some ⟨wr.heap.size, 0, none⟩) 0 0] 22; rw [World.size_alloc] at this; exact this)
          have NB : Hid (some b ≠ (Value.slice AR D.length cR).ownBlock) := Lib.hid fun e => by have := ho.out.vlt b e.symm; omega
          have VLT := Lib.hid ho.out.vlt
          have BA := Lib.hid ((hbr.out.alloc hbs (.cells #[] 2)).alloc (by simp; omega) (.cells #[.slice (some ⟨wr.heap.size, 0, none⟩) 0 0] 22))
          clear hv ho
          have tok1 : True := trivial
          go_wp2_with (first
            | (have _t := tok1; at_builtin; go_loud (refine wpList_app rfl _ _ _ rfl w.heap.size Tryz.underlying63 ki kz0 kz1 kz2 rfl (by omega) rfl T1.out.rows.row rfl RL.out (m := 1) rfl (slice_one _ _ _) (by omega) (by omega) (by simp; omega) ?_); intro v5 w5 o5 g5 a5; clear tok1
               have hc1 : w5.cell? ⟨b, off + k, none⟩ = some (.int .i64 q) := g5.cell HC1.out NB.out
               have sz5 : wr.heap.size + 2 ≤ w5.heap.size := by have := g5.size; simp at this; omega
               have h5 := T1.out.push (by simp) o5 g5 a5
               rw [← hN.out] at h5
               have b5 := Lib.hid (BA.out.grown g5 BA.out.size (fun b hb => (VLT.out b hb).1))
               obtain ⟨gv, cv, u5, rfl, cvl, hu5, cu5, ru5, gvl, gvh, uo5⟩ := h5.lastAt
               obtain ⟨Au, cu, rfl⟩ := own_form ru5
               have H5 := Lib.hid h5
               have RU := Lib.hid ru5
               have HU5 := Lib.hid hu5
               have UO5 := Lib.hid uo5
               have RW := Lib.hid (show w5.ownsRow w.heap.size 22 1 (.slice (some ⟨gv, 0, none⟩) (D.length + 1) cv) (D.length + 1) (us ++ [.slice (some ⟨wr.heap.size, 0, none⟩) 0 0]) by have := H5.out.row; simpa using this)
               clear h5 ru5 hu5 uo5 o5 g5 a5 hc0)
            | (at_builtin; go_loud (refine wpList_app rfl _ _ _ rfl w.heap.size Tryz.underlying22 hi hz0 hz1 hz2 rfl (by omega) rfl (RU.out.alloc _) rfl (Rd.lit w5 #[.int .i64 k] _) (m := 1) rfl (nums_one .i64 [(k : Int)]) (by omega) (by omega) (by simp; omega) ?_); intro v6 w6 o6 g6 a6; obtain ⟨A6, c6, rfl⟩ := own_form o6; have R6 := Lib.hid ((RW.out.alloc (.cells #[.int .i64 k] 2)).kept g6 (own_ne_symm UO5.out)))
            | (refine wpList_put rfl _ _ _ rfl i1 ki kz1 D.length (.slice A6 (N.length + 1) c6) rfl rfl rfl R6.out (by omega) ?_; intro w7 o7 g7))
          have b7 : Below w.heap.size w w7 := (b5.out.alloc b5.out.size (.cells #[.int .i64 k] 2)).grown g6 (by simp; omega) (fun b hb => (RU.out.lt b hb).1) |>.grown g7 (by have := g6.size; simp at this; omega) (fun b hb => by injection hb with hb; omega)
          have HL := (H5.out.alloc (.cells #[.int .i64 k] 2)).last HU5.out (by simp) o6 g6 a6 (by simpa using o7) g7
          rw [← E2.out] at HL
          have HL2 := Lib.hid HL
          have B7 := Lib.hid b7
          have EL : Hid ((srun ls (k + 1)).out.length = D.length + 1) := Lib.hid (by rw [E2.out]; simp)
          clear HL b7 o6 g6 a6 o7 g7
          go_roundw
          case rel => exact ⟨k + 1, _, by omega, by go_num, by rw [E3.out], HL2, B7⟩
          case measure => first | omega | (simp [intOf]; omega)
    · have e : k = ls.length := by rw [← hn.out]; omega
      have HO := Lib.hid (show OwnSS wr w.heap.size wr.heap.size 22 2 .i64 (.slice AR (srun ls k).out.length cR) (runsN ls) from (by have := ho.out; rw [e] at this ⊢; exact ⟨us, this⟩))
      clear e ho
      go_wp2
      go_ret
      exact ⟨⟨_, rfl, HO.out⟩, hbr.out⟩
end Go.Proofs.YtcfnhjpmihngdaaGreat

