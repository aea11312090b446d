/- Chapter 5: the program's runs. -/
import Derived.Test.YthhbikilighemaaK1
import Derived.Test.YthhbikilighemaaO3
import Derived.Test.YthhbikilighemaaS1
import Derived.WalkMore
import Derived.BigQuiet
namespace Go.Proofs.Ythhbikilighemaa
open Go.RowKit Go.Maps

/-- where the program's cutting stands: R is cut, what is kept from f on and ahead of t is of one level -/
structure Cut (ls : List Int) (f t : Nat) (R : List (List Int)) : Prop where
  le : f ≤ t
  top : t ≤ (keptL ls).length
  open_ : f < t → (grun (lev ls) ((keptL ls).take t)).done = R ∧ (grun (lev ls) ((keptL ls).take t)).now = ((keptL ls).take t).drop f ∧ (grun (lev ls) ((keptL ls).take t)).val = lev ls (nth (keptL ls) f)
  shut : f = t → (grun (lev ls) ((keptL ls).take t)).out = R ∧ (t < (keptL ls).length → lev ls (nth (keptL ls) t) ≠ (grun (lev ls) ((keptL ls).take t)).val)
theorem kept_lev {ls : List Int} {k : Nat} (h : k < (keptL ls).length) : lev ls (nth (keptL ls) k) ≠ -1 := (keptN_mem (k := ls.length) (nth_mem h)).2.2
theorem kept_place {ls : List Int} {k : Nat} (h : k < (keptL ls).length) : 0 ≤ nth (keptL ls) k ∧ nth (keptL ls) k < ls.length := by
  have := keptN_mem (k := ls.length) (nth_mem h)
  exact ⟨this.1, this.2.1⟩
theorem Cut.zero (ls : List Int) : Cut ls 0 0 [] := ⟨Nat.le_refl _, by omega, fun h => by omega, fun _ => ⟨rfl, fun h => kept_lev h⟩⟩
theorem Cut.end_ {ls : List Int} {t : Nat} {R : List (List Int)} (h : Cut ls (keptL ls).length t R) : R = runsN ls := by
  have e : t = (keptL ls).length := by have := h.le; have := h.top; omega
  subst e
  have := (h.shut rfl).1
  rw [List.take_of_length_le (Nat.le_refl _)] at this
  exact this.symm
theorem Cut.lt {ls : List Int} {f t : Nat} {R : List (List Int)} (h : Cut ls f t R) (hf : f < (keptL ls).length) (hc : t = (keptL ls).length ∨ lev ls (nth (keptL ls) t) ≠ lev ls (nth (keptL ls) f)) : f < t := by
  have := h.le
  rcases hc with hc | hc
  · omega
  · apply Classical.byContradiction
    intro hn
    obtain rfl : f = t := by omega
    exact hc rfl
theorem Cut.cut {ls : List Int} {f t : Nat} {R : List (List Int)} (h : Cut ls f t R) (hf : f < (keptL ls).length) (hc : t = (keptL ls).length ∨ lev ls (nth (keptL ls) t) ≠ lev ls (nth (keptL ls) f)) : Cut ls t t (R ++ [((keptL ls).take t).drop f]) := by
  have hlt := h.lt hf hc
  have ht := h.top
  obtain ⟨o1, o2, o3⟩ := h.open_ hlt
  refine ⟨Nat.le_refl _, ht, fun h => by omega, fun _ => ⟨?_, fun h => ?_⟩⟩
  · rw [out_full (by rw [o2, List.length_drop, List.length_take]; omega), o1, o2]
  · rw [o3]
    rcases hc with hc | hc
    · omega
    · exact hc
theorem Cut.on {ls : List Int} {f t : Nat} {R : List (List Int)} (h : Cut ls f t R) (ht : t < (keptL ls).length) (hc : lev ls (nth (keptL ls) t) = lev ls (nth (keptL ls) f)) : Cut ls f (t + 1) R := by
  have hle := h.le
  refine ⟨by omega, ht, fun _ => ?_, fun h => by omega⟩
  rw [grun_step _ _ _ ht]
  by_cases hlt : f < t
  · obtain ⟨o1, o2, o3⟩ := h.open_ hlt
    unfold gstep
    rw [if_pos (by rw [o3]; exact hc)]
    refine ⟨o1, ?_, o3⟩
    show _ ++ _ = _
    rw [o2, take_nth _ _ ht, List.drop_append_of_le_length (by rw [List.length_take]; omega)]
  · obtain rfl : f = t := by omega
    obtain ⟨s1, s2⟩ := h.shut rfl
    unfold gstep
    rw [if_neg (s2 ht)]
    refine ⟨s1, ?_, rfl⟩
    show [_] = _
    rw [take_nth _ _ ht, List.drop_append_of_le_length (by rw [List.length_take]; omega), List.drop_of_length_le (by rw [List.length_take]; omega), List.nil_append]
theorem Cut.len {ls : List Int} {f t : Nat} {R : List (List Int)} (h : Cut ls f t R) : R.length ≤ f ∧ total R ≤ f := by
  have key : total R ≤ f ∧ ∀ r ∈ R, r ≠ [] := by
    have wf : WfG (lev ls) (grun (lev ls) ((keptL ls).take t)) := grun_wf fun x hx => (keptN_mem (k := ls.length) (List.mem_of_mem_take hx)).2.2
    have tk : ((keptL ls).take t).length = t := by rw [List.length_take]; have := h.top; omega
    have fl := grun_flat (lev ls) ((keptL ls).take t)
    by_cases hlt : f < t
    · obtain ⟨o1, o2, o3⟩ := h.open_ hlt
      rw [out_flat, o1, o2] at fl
      have := congrArg List.length fl
      rw [List.length_append, flat_len, List.length_drop, tk] at this
      exact ⟨by omega, fun r hr => (wf.each r (by rw [o1]; exact hr)).1⟩
    · have hle := h.le
      obtain rfl : f = t := by omega
      obtain ⟨s1, s2⟩ := h.shut rfl
      rw [s1] at fl
      have := congrArg List.length fl
      rw [flat_len, tk] at this
      exact ⟨by omega, fun r hr => (wf.out r (by rw [s1]; exact hr)).1⟩
  have := len_le_total R key.2
  exact ⟨by omega, key.1⟩
theorem sub_slice {zs : List Int} (f t : Nat) (ht : t ≤ zs.length) : ((zs.take t).drop f).length = t - f := by rw [List.length_drop, List.length_take]; omega
/-- a part of a slice that reads -/
theorem Rd.part {kd : IntKind} {w : World} {B : Nat} {b off : Nat} {zs : List Int} (h : Rd w B (some ⟨b, off, none⟩) (nums kd zs)) (f t : Nat) : Rd w B (some ⟨b, off + f, none⟩) (nums kd ((zs.take t).drop f)) := by
  intro k u hu
  have e : nums kd ((zs.take t).drop f) = ((nums kd zs).take t).drop f := by simp [nums, List.map_take, List.map_drop]
  rw [e, List.getElem?_drop, List.getElem?_take] at hu
  split at hu
  · obtain ⟨b', off', e1, h1, h2⟩ := h _ u hu
    injection e1 with e1
    injection e1 with e2 e3
    subst e2; subst e3
    exact ⟨_, _, rfl, h1, by rw [Nat.add_assoc]; exact h2⟩
  · cases hu

set_option maxRecDepth 100000 in
set_option maxHeartbeats 2000000 in
theorem runsAmong_any (A : Option Addr) (ls : List Int) (c : Nat) (w : World) (B : Nat) (h1 : Rd w B A (nums .i64 ls)) (hB : B ≤ w.heap.size) (hl : ls.length ≤ 600) :
    Calls Try.prog 31 #[.slice A ls.length c] w fun e w' => (∃ v, e = .returned v ∧ OwnSS w' w.heap.size w'.heap.size 22 2 .i64 v (runsN ls)) ∧ Below w.heap.size w w' := by
  obtain ⟨i1, ki, kz0, kz1, kz2⟩ := info_parts info_ints
  have H1 := Lib.hid h1
  clear h1
  go_enter Try.func31, Try.ntmps31
  go_wp2
  go_step3
  go_wp2_with fail
  refine (keptAmong_any A ls c w B H1.out hB hl).mono ?_
  rintro e w1 ⟨⟨v1, rfl, o1⟩, b1⟩
  obtain ⟨A1, c1, rfl⟩ := o1.form
  have KL : Hid ((keptL ls).length ≤ ls.length) := Lib.hid (keptN_len ls ls.length)
  obtain ⟨m, hm⟩ : ∃ m, Hid (m = (keptL ls).length) := ⟨_, Lib.hid rfl⟩
  rw [← hm.out] at KL ⊢
  have hml : m ≤ 600 := by have := KL.out; omega
  have R1 := Lib.hid (Rd.of o1.1)
  have cp : m ≤ c1 := by have := (own_cap o1.1).1; rw [← hm.out] at this; exact this
  have B1 := Lib.hid b1
  have L1 := Lib.hid (H1.out.below b1 hB)
  have s1 := b1.size
  have T0 : Hid (OwnC w1 w1.heap.size w1.heap.size 22 1 (.slice none 0 0) ([] : List (List Int)).length [] (contsL 2 .i64 [])) := Lib.hid (OwnC.nil w1 _ _ _ 1)
  have C0 := Lib.hid (Cut.zero ls)
  clear o1 b1
  go_wp2
  go_step3
  go_wp2
  go_loopw [4, 5, 6] (fun vR vf vt wr => ∃ (f t : Nat) (R : List (List Int)) (us : List Value), f ≤ t ∧ t ≤ m ∧ vf = .int .i64 f ∧ vt = .int .i64 t ∧ Hid (Cut ls f t R) ∧
    Hid (OwnC wr w1.heap.size wr.heap.size 22 1 vR R.length us (contsL 2 .i64 R)) ∧ Hid (Below w1.heap.size w1 wr)) (fun _ f t _ => 2 * m - (intOf f).toNat - (intOf t).toNat)
  case atStart => exact ⟨0, 0, [], [], by omega, by omega, rfl, rfl, C0, T0, Lib.hid (Below.refl _ _)⟩
  case round =>
    clear T0 C0
    obtain ⟨f, t, R, us, hft, htm, rfl, rfl, hcut, ho, hbr⟩ := hrel
    have wsz := hbr.out.size
    obtain ⟨AR, cR, rfl⟩ := own_form ho.out.row
    by_cases hf : f = m
    · have ER := Lib.hid (show R = runsN ls from (by have := hcut.out; rw [show f = (keptL ls).length by rw [hf, hm.out]] at this; exact this.end_))
      have HO := Lib.hid (show OwnSS wr w.heap.size wr.heap.size 22 2 .i64 (.slice AR R.length cR) R from (show OwnSS wr w1.heap.size wr.heap.size 22 2 .i64 (.slice AR R.length cR) R from ⟨us, ho.out⟩).more s1 (Nat.le_refl _))
      have fe : (((f : Nat) : Int) == ((m : Nat) : Int)) = true := by simp [hf]
      have BB := Lib.hid (B1.out.trans (hbr.out.mono (by omega)))
      clear hf ho hcut
      go_wp2
      rw [Exit.noGoto_ret]
      go_ret
      exact ⟨⟨_, rfl, by rw [← ER.out]; exact HO.out⟩, BB.out⟩
    · have fe : (((f : Nat) : Int) == ((m : Nat) : Int)) = false := by simp; omega
      have flt : f < m := by omega
      obtain ⟨bk, ok, rfl, hbk, hck⟩ := (R1.out.below hbr.out (Nat.le_refl _)).int (by rw [← hm.out]; omega)
      have pf := kept_place (ls := ls) (k := f) (by rw [← hm.out]; exact flt)
      obtain ⟨x, hx⟩ : ∃ x : Nat, Hid (nth (keptL ls) f = (x : Int)) := ⟨(nth (keptL ls) f).toNat, Lib.hid (by show nth _ _ = _; omega)⟩
      have kf := hck f (by rw [← hm.out]; exact flt)
      rw [hx.out] at kf pf
      obtain ⟨bl, ol, rfl, hbl, hcl⟩ := ((L1.out.below hbr.out (by omega))).int (by omega)
      have lf := hcl x (by omega)
      have LF := Lib.hid (show lev ls (nth (keptL ls) f) = nth ls x by rw [hx.out]; simp [lev])
      obtain ⟨p, hp⟩ : ∃ p, Hid (p = nth ls x) := ⟨_, Lib.hid rfl⟩
      rw [← hp.out] at lf LF
      have RDK := Lib.hid (R1.out.below hbr.out (Nat.le_refl _))
      have hcf : ¬ c1 = f := by omega
      -- the cut, wherever the test came out so
      have CUTS : Hid (t = m ∨ lev ls (nth (keptL ls) t) ≠ p → Cut ls t t (R ++ [((keptL ls).take t).drop f]) ∧ f < t) := Lib.hid fun h => by
        have h2 : t = (keptL ls).length ∨ lev ls (nth (keptL ls) t) ≠ lev ls (nth (keptL ls) f) := by rw [LF.out, ← hm.out]; exact h
        exact ⟨hcut.out.cut (by rw [← hm.out]; exact flt) h2, hcut.out.lt (by rw [← hm.out]; exact flt) h2⟩
      have CLEN := Lib.hid hcut.out.len
      have ON : Hid (t < m → lev ls (nth (keptL ls) t) = p → Cut ls f (t + 1) R) := Lib.hid fun h1 h2 => hcut.out.on (by rw [← hm.out]; exact h1) (by rw [LF.out]; exact h2)
      have HO := Lib.hid ho.out
      have rl1 : R.length ≤ 600 := by have := CLEN.out.1; omega
      clear hcut ho hf CLEN
      obtain ⟨zs, hzs⟩ : ∃ zs, Hid (zs = ((keptL ls).take t).drop f) := ⟨_, Lib.hid rfl⟩
      have ZL : Hid (zs.length = t - f) := Lib.hid (by rw [hzs.out]; exact sub_slice f t (by rw [← hm.out]; exact htm))
      have SZ : Hid (Sees wr w1.heap.size .i64 (.slice (some ⟨bk, ok + f, none⟩) (t - f) (c1 - f)) zs) := Lib.hid ⟨_, _, by rw [ZL.out], by rw [hzs.out]; exact RDK.out.part f t⟩
      rw [← hzs.out] at CUTS
      have STEP : Hid (∀ (wd : World) (n5 : Nat) (v5 : Value) (w5 w6 : World) (vR' : Value), wd = wr.drewN n5 → Own w5 wd.heap.size w5.heap.size 2 .i64 v5 zs → Below wd.heap.size wd w5 → 
          w6.ownsRow w1.heap.size 22 1 vR' (R.length + 1) (us ++ [v5]) → (w5.alloc (.cells #[v5] 22)).grownBy w6 (Value.slice AR R.length cR).ownBlock → (vR'.ownBlock = (Value.slice AR R.length cR).ownBlock ∨ vR'.ownBlock = some (w5.alloc (.cells #[v5] 22)).heap.size) →
          OwnC w6 w1.heap.size w6.heap.size 22 1 vR' (R ++ [zs]).length (us ++ [v5]) (contsL 2 .i64 (R ++ [zs])) ∧ Below w1.heap.size w1 w6) := Lib.hid (by
        intro wd n5 v5 w5 w6 vR' hwd o5 b5 o6 g6 a6
        subst hwd
        have o5' : Own w5 wr.heap.size w5.heap.size 2 .i64 v5 zs := o5
        have s5 : wr.heap.size ≤ w5.heap.size := b5.size
        have r5 : OwnC w5 w1.heap.size wr.heap.size 22 1 (.slice AR R.length cR) R.length us (contsL 2 .i64 R) := (HO.out.drew n5).below b5 (Nat.le_refl _)
        have T5 : Two w5 w1.heap.size w5.heap.size 22 2 (.slice AR R.length cR) v5 R zs us := by
          refine ⟨r5.more (Nat.le_refl _) s5, o5'.more (by omega) (Nat.le_refl _), fun i y hy => ?_, ?_⟩
          · by_cases hn : y.ownBlock = none
            · exact .inl hn
            · refine .inr fun e2 => ?_
              obtain ⟨g, hg⟩ := Option.ne_none_iff_exists'.1 hn
              have h1 := r5.lts i y g hy hg
              have h2 := o5'.lt g (by rw [← e2, hg])
              omega
          · by_cases hn : v5.ownBlock = none
            · exact .inl hn
            · refine .inr fun e2 => ?_
              obtain ⟨g, hg⟩ := Option.ne_none_iff_exists'.1 hn
              have h1 := o5'.lt g hg
              have h2 := r5.vlt g (by rw [← e2, hg])
              omega
        have T6 := (T5.alloc (.cells #[v5] 22)).push (by simp) o6 g6 a6
        refine ⟨T6, ?_⟩
        have b6 : Below w1.heap.size w1 w5 := (below_drewN hbr.out n5).trans (b5.mono (by simpa using wsz))
        exact b6.grown ((World.grownBy_alloc w5 _ _).trans g6) b6.size (fun b hb => (r5.vlt b hb).1))
      by_cases ht : t = m
      · have te : (((t : Nat) : Int) == ((m : Nat) : Int)) = true := by simp [ht]
        obtain ⟨cu, fl⟩ := CUTS.out (.inl ht)
        have CU := Lib.hid cu
        clear cu ht
        go_wp2
        go_quiet (fail)
        go_wp2_with (first
          | (go_at_call 63; refine (cloneInt_own (.slice (some ⟨bk, ok + f, none⟩) (t - f) (c1 - f)) zs _ w1.heap.size (SZ.out.drew _) (by simpa using wsz) (by rw [ZL.out]; omega)).mono ?_; rintro e w5 ⟨⟨v5, rfl, o5⟩, b5⟩; obtain ⟨A5, c5, rfl⟩ := o5.form; have OR5 := Lib.hid ((HO.out.drew _).below b5 (Nat.le_refl _)).row; have s5 : wr.heap.size ≤ w5.heap.size := b5.size)
          | (at_builtin; go_loud (refine wpList_app rfl _ _ _ rfl w1.heap.size Try.underlying23 ki kz0 kz1 kz2 rfl (by omega) rfl (OR5.out.alloc _) rfl (Rd.lit w5 #[.slice A5 zs.length c5] _) (m := 1) rfl (slice_one _ _ _) (by omega) (by omega) (by simp; omega) ?_); intro v6 w6 o6 g6 a6; obtain ⟨A6, c6, rfl⟩ := own_form o6; obtain ⟨f1, f2⟩ := STEP.out _ _ _ _ _ _ rfl o5 b5 o6 g6 a6; have F1 := Lib.hid f1; have F2 := Lib.hid f2; clear f1 f2 o6 g6 a6 o5 b5))
        go_roundw
        case rel => exact ⟨t, t, R ++ [zs], _, by omega, by omega, rfl, rfl, CU, F1, F2⟩
        case measure => first | omega | (simp [intOf]; omega)
      · have te : (((t : Nat) : Int) == ((m : Nat) : Int)) = false := by simp; omega
        have tlt : t < m := by omega
        have pt := kept_place (ls := ls) (k := t) (by rw [← hm.out]; exact tlt)
        obtain ⟨y, hy⟩ : ∃ y : Nat, Hid (nth (keptL ls) t = (y : Int)) := ⟨(nth (keptL ls) t).toNat, Lib.hid (by show nth _ _ = _; omega)⟩
        have kt := hck t (by rw [← hm.out]; exact tlt)
        rw [hy.out] at kt pt
        have lt := hcl y (by omega)
        have LT := Lib.hid (show lev ls (nth (keptL ls) t) = nth ls y by rw [hy.out]; simp [lev])
        obtain ⟨q, hq⟩ : ∃ q, Hid (q = nth ls y) := ⟨_, Lib.hid rfl⟩
        rw [← hq.out] at lt LT
        clear hck hcl ht
        by_cases hpq : q = p
        · have qe : (q != p) = false := by simp [hpq]
          have CU := Lib.hid (ON.out tlt (by rw [LT.out]; exact hpq))
          clear hpq
          go_wp2
          go_quiet (fail)
          go_wp2
          go_roundw
          case rel => exact ⟨f, t + 1, R, us, by omega, by omega, rfl, by go_num, CU, HO.out.drew _, below_drewN hbr.out _⟩
          case measure => first | omega | (simp [intOf]; omega)
        · have qe : (q != p) = true := by simpa using hpq
          obtain ⟨cu, fl⟩ := CUTS.out (.inr (by rw [LT.out]; exact hpq))
          have CU := Lib.hid cu
          clear cu hpq
          go_wp2
          go_quiet (fail)
          go_wp2_with (first
            | (go_at_call 63; refine (cloneInt_own (.slice (some ⟨bk, ok + f, none⟩) (t - f) (c1 - f)) zs _ w1.heap.size (SZ.out.drew _) (by simpa using wsz) (by rw [ZL.out]; omega)).mono ?_; rintro e w5 ⟨⟨v5, rfl, o5⟩, b5⟩; obtain ⟨A5, c5, rfl⟩ := o5.form; have OR5 := Lib.hid ((HO.out.drew _).below b5 (Nat.le_refl _)).row; have s5 : wr.heap.size ≤ w5.heap.size := b5.size)
            | (at_builtin; go_loud (refine wpList_app rfl _ _ _ rfl w1.heap.size Try.underlying23 ki kz0 kz1 kz2 rfl (by omega) rfl (OR5.out.alloc _) rfl (Rd.lit w5 #[.slice A5 zs.length c5] _) (m := 1) rfl (slice_one _ _ _) (by omega) (by omega) (by simp; omega) ?_); intro v6 w6 o6 g6 a6; obtain ⟨A6, c6, rfl⟩ := own_form o6; obtain ⟨f1, f2⟩ := STEP.out _ _ _ _ _ _ rfl o5 b5 o6 g6 a6; have F1 := Lib.hid f1; have F2 := Lib.hid f2; clear f1 f2 o6 g6 a6 o5 b5))
          go_roundw
          case rel => exact ⟨t, t, R ++ [zs], _, by omega, by omega, rfl, rfl, CU, F1, F2⟩
          case measure => first | omega | (simp [intOf]; omega)
end Go.Proofs.Ythhbikilighemaa
