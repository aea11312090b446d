/- Chapter 7: the program's neutrals, whole. -/
import Derived.Test.YtkkojemnbcddfaaDoorZ3
import Derived.Test.YtkkojemnbcddfaaDoorX7
import Derived.Test.YtkkojemnbcddfaaDoorS1
import Derived.Deep.RegionHeld3
namespace Go.Proofs.YtkkojemnbcddfaaDoor
open Go.RowKit Go.Maps

theorem mix_fill (l : List Int) (way sos eos : Int) (f t : Nat) (h1 : f ≤ t) (h2 : t ≤ l.length) (h3 : ∀ j, f ≤ j → j < t → isNeu (nth l j) = true) (h4 : t = l.length ∨ isNeu (nth l t) = false) (h5 : f = 0 ∨ isNeu (nth l (f - 1)) = false) :
    fillN (neuV l way sos eos f t) (t - f) f (mixN (neutralsN l way sos eos) l f) = mixN (neutralsN l way sos eos) l (t + 1) :=
  nth_eq_of _ _ (by rw [fillN_len, mixN_len, mixN_len]) fun j hj => by
    rw [fillN_len, mixN_len] at hj
    rw [fillN_nth _ _ _ _ (by rw [mixN_len]; omega), mixN_nth _ _ _ _ hj, mixN_nth _ _ _ _ hj]
    by_cases e1 : f ≤ j ∧ j < f + (t - f)
    · rw [if_pos e1, if_pos (by omega)]
      by_cases ef : f < t
      · exact (neu_run l way sos eos f t ef h2 h3 h4 h5 j e1.1 (by omega)).symm
      · omega
    · rw [if_neg e1]
      by_cases e2 : j < f
      · rw [if_pos e2, if_pos (by omega)]
      · rw [if_neg e2]
        by_cases e3 : j = t
        · subst e3
          rw [if_pos (by omega)]
          rcases h4 with h4 | h4
          · omega
          · exact (neu_not l way sos eos j hj h4).symm
        · rw [if_neg (by omega)]
theorem mixN_over (N l : List Int) (h : N.length = l.length) (k : Nat) (hk : l.length ≤ k) : mixN N l k = N :=
  nth_eq_of _ _ (by rw [mixN_len, h]) fun j hj => by rw [mixN_len] at hj; rw [mixN_nth _ _ _ _ hj, if_pos (by omega)]
/-- what a closure of sidesAt holds -/
structure AtS (w : World) (A : Option Addr) (n c : Nat) (s : Int) (B g h : Nat) : Prop where
  c1 : w.cell? ⟨g, 0, none⟩ = some (.slice A n c)
  c2 : w.cell? ⟨h, 0, none⟩ = some (.int .i64 s)
  l1 : g < B
  l2 : h < B
theorem AtS.below {w w' : World} {A : Option Addr} {n c : Nat} {s : Int} {B g h : Nat} (k : AtS w A n c s B g h) (hb : Below B w w') : AtS w' A n c s B g h :=
  ⟨(hb.cell (p := ⟨g, 0, none⟩) k.l1).trans k.c1, (hb.cell (p := ⟨h, 0, none⟩) k.l2).trans k.c2, k.l1, k.l2⟩
theorem AtS.more {w : World} {A : Option Addr} {n c : Nat} {s : Int} {B B' g h : Nat} (k : AtS w A n c s B g h) (hB : B ≤ B') : AtS w A n c s B' g h := ⟨k.c1, k.c2, Nat.lt_of_lt_of_le k.l1 hB, Nat.lt_of_lt_of_le k.l2 hB⟩
theorem AtS.out {w w' : World} {A : Option Addr} {n c : Nat} {s : Int} {B g h lo hi : Nat} (k : AtS w A n c s B g h) (ho : Out lo hi w w') (hB : B ≤ w.heap.size) (hg : hi ≤ g ∧ hi ≤ h) : AtS w' A n c s B g h := by
  have kk : ∀ g i, hi ≤ g → g < B → w'.cell? ⟨g, i, none⟩ = w.cell? ⟨g, i, none⟩ := fun g i h1 h2 => by unfold World.cell?; simp only [ho.block g (by omega) (by omega)]
  exact ⟨(kk g 0 hg.1 k.l1).trans k.c1, (kk h 0 hg.2 k.l2).trans k.c2, k.l1, k.l2⟩
theorem sidesAt_own (A : Option Addr) (n c : Nat) (s : Int) (w : World) : Calls Tryd.prog 74 #[.slice A n c, .int .i64 s] w fun e w' => (∃ g h, e = .returned (.func (.func 93) #[] #[.pointer (some ⟨g, 0, none⟩), .pointer (some ⟨h, 0, none⟩)]) ∧ AtS w' A n c s w'.heap.size g h ∧ w.heap.size ≤ g ∧ w.heap.size ≤ h) ∧ Below w.heap.size w w' := by
  refine (sidesAt_any A n c s w).mono ?_
  rintro e w' ⟨rfl, rfl⟩
  have k1 := (Blk.new w 24 #[.slice A n c]).alloc (.cells #[.int .i64 s] 2)
  have k2 := Blk.new (w.alloc (.cells #[.slice A n c] 24)) 2 #[.int .i64 s]
  rw [World.size_alloc] at k2
  exact ⟨⟨_, _, rfl, ⟨k1.cell 0 rfl, k2.cell 0 rfl, by simp; omega, by simp⟩, Nat.le_refl _, by omega⟩, ((Below.refl w.heap.size w).alloc (Nat.le_refl _) _).alloc (by simp) _⟩
set_option maxRecDepth 100000 in
set_option maxHeartbeats 8000000 in
theorem neutralsIn_any (v0 v1 v2 : Value) (p : Prt) (w : World) (B : Nat) (h0 : Sees w B .i64 v0 p.T) (h1 : Sees w B .i64 v1 p.F) (h2 : Sees w B .i64 v2 p.N) (hB : B ≤ w.heap.size) (hT : p.N.length ≤ 600) :
    Calls Tryd.prog 47 #[.agg #[v0, v1, v2, .int .i64 p.L, .int .i64 p.S, .int .i64 p.E]] w fun e w' => (∃ u, e = .returned u ∧ Own w' w.heap.size w'.heap.size 2 .i64 u (neutralsN p.N (sideL p.L) p.S p.E)) ∧ Below w.heap.size w w' := by
  have PT := PtR.new w 26 B v0 v1 v2 p hB h0 h1 h2
  have b0 := (Below.refl w.heap.size w).alloc (Nat.le_refl _) (.cells #[v0, v1, v2, .int .i64 p.L, .int .i64 p.S, .int .i64 p.E] 26)
  obtain ⟨A0, c0, rfl, _⟩ := h0
  obtain ⟨A1, c1, rfl, _⟩ := h1
  obtain ⟨A2, c2, rfl, _⟩ := h2
  have z0 := Lib.hid (show (w.alloc (.cells #[.slice A0 p.T.length c0, .slice A1 p.F.length c1, .slice A2 p.N.length c2, .int .i64 p.L, .int .i64 p.S, .int .i64 p.E] 26)).heap.size = w.heap.size + 1 from by simp)
  have P0 := Lib.hid PT
  have B0 := Lib.hid b0
  obtain ⟨n, hn⟩ : ∃ n, Hid (n = p.N.length) := ⟨_, Lib.hid rfl⟩
  have NL := Lib.hid (show p.N.length = n by rw [hn.out])
  rw [← hn.out] at hT
  obtain ⟨way, hway⟩ : ∃ x, Hid (sideL p.L = x) := ⟨_, Lib.hid rfl⟩
  have SW := Lib.hid (show ∀ W : World, Calls Tryd.prog 76 #[.int .i64 p.L] W fun e w' => e = .returned (.int .i64 way) ∧ W = w' from fun W => by rw [← hway.out]; exact sideOf7_any p.L W)
  rw [hway.out]
  clear PT b0
  go_enter Tryd.func47, Tryd.ntmps47
  go_wp2_with fail
  generalize w.alloc (.cells #[.slice A0 p.T.length c0, .slice A1 p.F.length c1, .slice A2 p.N.length c2, .int .i64 p.L, .int .i64 p.S, .int .i64 p.E] 26) = wa at *
  refine (cloneInt_own _ p.N wa (w.heap.size + 1) P0.out.s2 (by have := z0.out; omega) (by rw [NL.out]; omega)).mono ?_
  rintro e w1 ⟨⟨u, rfl, o1⟩, b1⟩
  obtain ⟨A, c, rfl⟩ := o1.form
  have s1 := b1.size
  have hcap := (own_cap o1.1).1
  have O1 := Lib.hid o1
  have P1 := Lib.hid (P0.out.below b1 (by have := z0.out; omega))
  have B1 := Lib.hid (below_on B0.out b1 (by have := z0.out; omega))
  have f12 := P1.out.blk.cell 2 (u := .slice A2 p.N.length c2) rfl
  have f14 := P1.out.blk.cell 4 (u := .int .i64 p.S) rfl
  have f15 := P1.out.blk.cell 5 (u := .int .i64 p.E) rfl
  clear o1 b1
  go_wp2_with fail
  go_region_held3 (fun w' => w'.cell? ⟨w.heap.size, 2, none⟩ = some (.slice A2 p.N.length c2) ∧ w'.cell? ⟨w.heap.size, 4, none⟩ = some (.int .i64 p.S) ∧ w'.cell? ⟨w.heap.size, 5, none⟩ = some (.int .i64 p.E)) (first | exact ⟨f12, f14, f15⟩ | exact ⟨f22, f24, f25⟩ | exact ⟨f32, f34, f35⟩) (first
    | (go_at_call 74; refine (sidesAt_own A2 p.N.length c2 p.S w1.drew).mono ?_; rintro e w2 ⟨⟨ga0, ga1, rfl, hat, hga0, hga1⟩, b2⟩
       have qb2 : Below w1.heap.size w1 w2 := ⟨b2.os, b2.tape, b2.output, b2.size, b2.block⟩
       have s2 := qb2.size
       have P2 := Lib.hid (P1.out.below qb2 (by have := z0.out; omega))
       have B2 := Lib.hid (below_on B1.out qb2 (by have := z0.out; omega))
       have O2 := Lib.hid (O1.out.below qb2 (Nat.le_refl _))
       have ATX := Lib.hid hat
       have HG1 := Lib.hid (show w1.heap.size ≤ ga0 ∧ w1.heap.size ≤ ga1 from ⟨hga0, hga1⟩)
       have f22 := P2.out.blk.cell 2 (u := .slice A2 p.N.length c2) rfl
       have f24 := P2.out.blk.cell 4 (u := .int .i64 p.S) rfl
       have f25 := P2.out.blk.cell 5 (u := .int .i64 p.E) rfl
       clear b2 qb2 hat hga0 hga1 P1 B1 O1 f12 f14 f15)
    | (go_at_call 74; refine (sidesAt_own A2 p.N.length c2 p.E w2).mono ?_; rintro e w3 ⟨⟨gb0, gb1, rfl, hat, hgb0, hgb1⟩, b3⟩
       have s3 := b3.size
       have z3 := Lib.hid s3
       have P3 := Lib.hid (P2.out.below b3 (by have := z0.out; omega))
       have B3 := Lib.hid (below_on B2.out b3 (by have := z0.out; omega))
       have O3 := Lib.hid (O2.out.below b3 s2)
       have AT1 := Lib.hid ((ATX.out.below b3).more b3.size)
       have AT2 := Lib.hid hat
       have HG2 := Lib.hid (show w1.heap.size ≤ gb0 ∧ w1.heap.size ≤ gb1 from ⟨by omega, by omega⟩)
       have f32 := P3.out.blk.cell 2 (u := .slice A2 p.N.length c2) rfl
       have f34 := P3.out.blk.cell 4 (u := .int .i64 p.S) rfl
       have f35 := P3.out.blk.cell 5 (u := .int .i64 p.E) rfl
       clear b3 hat hgb0 hgb1 P2 B2 O2 ATX f22 f24 f25))
  clear f32 f34 f35
  rw [NL.out] at hcap
  have R3 : Hid (Row7 w3 wa.heap.size A n c (mixN (neutralsN p.N way p.S p.E) p.N 0)) := Lib.hid (by rw [mixN_zero]; have := O3.out.1; rw [NL.out] at this; exact this)
  have HI := Lib.hid (show ∀ b, (Value.slice A n c).ownBlock = some b → wa.heap.size ≤ b ∧ b < w1.heap.size from fun b hb => O3.out.lt b (by rw [NL.out]; exact hb))
  rw [NL.out] at AT1 AT2 ⊢
  clear O3
  go_wp2_with fail
  go_loopw [6] (fun i wr => ∃ f : Nat, f ≤ n + 1 ∧ i = .int .i64 f ∧ Hid (Row7 wr wa.heap.size A n c (mixN (neutralsN p.N way p.S p.E) p.N f)) ∧ Hid (Out wa.heap.size w1.heap.size w3 wr) ∧ Hid (f = 0 ∨ isNeu (nth p.N (f - 1)) = false)) (fun i _ => n + 1 - (intOf i).toNat)
  case atStart => exact ⟨0, by omega, rfl, R3, Lib.hid (Out.refl _ _ _), Lib.hid (.inl rfl)⟩
  case round =>
    clear R3
    obtain ⟨f, hf, rfl, hw, ho, HB⟩ := hrel
    generalize wr = wo at *
    clear wr
    have wsz : w3.heap.size ≤ wo.heap.size := ho.out.size
    by_cases hlt : f < n
    · have fl : (f : Int) < (n : Int) := by omega
      obtain ⟨ga, ca, eA, hga⟩ := own_addr hw.out (by omega)
      have eA1 := (sl_eq eA).1
      subst eA1
      clear eA
      go_wp2_with fail
      go_loopw [7] (fun i wr => ∃ t : Nat, f ≤ t ∧ t ≤ n ∧ i = .int .i64 t ∧ Hid (∀ j, f ≤ j → j < t → isNeu (nth p.N j) = true) ∧ Hid (Below wo.heap.size wo wr)) (fun i _ => n - (intOf i).toNat)
      case atStart => exact ⟨f, Nat.le_refl _, by omega, rfl, Lib.hid (fun j h1 h2 => by omega), Lib.hid (Below.refl _ _)⟩
      case round =>
        obtain ⟨t, hft, htn, rfl, HN1, hbq⟩ := hrel
        generalize wr = wp at *
        clear wr
        have psz : wo.heap.size ≤ wp.heap.size := hbq.out.size
        have RP := Lib.hid (own_below hw.out hbq.out)
        have HOP := Lib.hid (ho.out.trans (Out.of_below (lo := wa.heap.size) (hi := w1.heap.size) hbq.out))
        by_cases ht : t < n
        · have tl : (t : Int) < (n : Int) := by omega
          have hc0 := own_cell RP.out t ht
          rw [mixN_nth _ _ _ _ (by rw [NL.out]; exact ht), if_neg (by omega)] at hc0
          obtain ⟨q, hq⟩ : ∃ q, Hid (nth p.N t = q) := ⟨_, Lib.hid rfl⟩
          rw [hq.out] at hc0
          have CI := Lib.hid (isNeutral_any q wp)
          go_wp2_with fail
          cases hnq : isNeu q with
          | true =>
            rw [hnq] at CI
            refine CI.out.mono ?_
            rintro x wq ⟨rfl, bq⟩
            have HN2 := Lib.hid (show ∀ j, f ≤ j → j < t + 1 → isNeu (nth p.N j) = true from fun j h1 h2 => by
              by_cases e : j = t
              · subst e; rw [hq.out]; exact hnq
              · exact HN1.out j h1 (by omega))
            have BQ := Lib.hid (hbq.out.trans (bq.mono psz))
            clear bq CI hc0 hnq
            go_wp2
            go_roundw
            case rel => exact ⟨t + 1, by omega, by omega, by go_num, HN2, BQ⟩
            case measure => first | omega | (simp [intOf]; omega)
          | false =>
            rw [hnq] at CI
            refine CI.out.mono ?_
            rintro x wq ⟨rfl, bq⟩
            have sq := bq.size
            have RQ := Lib.hid (own_below RP.out bq)
            have HOQ := Lib.hid (HOP.out.trans (Out.of_below (lo := wa.heap.size) (hi := w1.heap.size) bq))
            have tz : t = n ∨ isNeu (nth p.N t) = false := .inr (by rw [hq.out]; exact hnq)
            have htn' := Lib.hid ht
            clear bq CI hc0 hnq
            have T1 := Lib.hid tz
            have P8 := Lib.hid (P3.out.out HOQ.out (by have := z0.out; omega) (by have := z0.out; omega))
            have AA := Lib.hid (AT1.out.out HOQ.out (by have := z3.out; omega) HG1.out)
            have AB := Lib.hid (AT2.out.out HOQ.out (by have := z3.out; omega) HG2.out)
            have rN : Hid (Rd wq (w.heap.size + 1) A2 (nums .i64 p.N)) := Lib.hid (by obtain ⟨A', c', e', r⟩ := P8.out.s2; have := (sl_eq e').1; subst this; exact r)
            have szq := show wo.heap.size ≤ wq.heap.size by omega
            have C1 := Lib.hid (sidesAt1_any A2 p.N c2 ga0 ga1 p.S ((f : Int) - 1) wq _ rN.out (by rw [NL.out]; exact AA.out.c1) AA.out.c2 (by rw [NL.out]; exact hT) (by have := AA.out.l1; omega) (by have := AA.out.l2; omega) (by have := z0.out; omega))
            obtain ⟨a1, ha1⟩ : ∃ a, Hid (nearS p.N ((f : Int) - 1) p.S = a) := ⟨_, Lib.hid rfl⟩
            obtain ⟨a2, ha2⟩ : ∃ a, Hid (nearS p.N (t : Int) p.E = a) := ⟨_, Lib.hid rfl⟩
            rw [ha1.out] at C1
            have NV : Hid (neuV p.N way p.S p.E f t = if a1 = a2 then a1 else way) := Lib.hid (by unfold neuV; rw [ha1.out, ha2.out])
            go_wp2_with fail
            refine C1.out.mono ?_
            rintro x w8 ⟨rfl, b8⟩
            have s8 := b8.size
            have R8 := Lib.hid (own_below RQ.out b8)
            have HO8 := Lib.hid (HOQ.out.trans (Out.of_below (lo := wa.heap.size) (hi := w1.heap.size) b8))
            have P9 := Lib.hid (P3.out.out HO8.out (by have := z0.out; omega) (by have := z0.out; omega))
            have AB8 := Lib.hid (AT2.out.out HO8.out (by have := z3.out; omega) HG2.out)
            have rN8 : Hid (Rd w8 (w.heap.size + 1) A2 (nums .i64 p.N)) := Lib.hid (by obtain ⟨A', c', e', r⟩ := P9.out.s2; have := (sl_eq e').1; subst this; exact r)
            have C2 := Lib.hid (sidesAt1_any A2 p.N c2 gb0 gb1 p.E (t : Int) w8 _ rN8.out (by rw [NL.out]; exact AB8.out.c1) AB8.out.c2 (by rw [NL.out]; exact hT) (by have := AB8.out.l1; omega) (by have := AB8.out.l2; omega) (by have := z0.out; omega))
            rw [ha2.out] at C2
            clear b8 C1 AA AB rN P8 RQ
            go_wp2_with fail
            refine C2.out.mono ?_
            rintro x w9 ⟨rfl, b9⟩
            have s9 := b9.size
            have R9 := Lib.hid (own_below R8.out b9)
            have HO9 := Lib.hid (HO8.out.trans (Out.of_below (lo := wa.heap.size) (hi := w1.heap.size) b9))
            have P10 := Lib.hid (P3.out.out HO9.out (by have := z0.out; omega) (by have := z0.out; omega))
            have f3 := P10.out.blk.cell 3 (u := .int .i64 p.L) rfl
            have MF := Lib.hid (mix_fill p.N way p.S p.E f t (by omega) (by rw [NL.out]; exact htn) HN1.out (by rw [NL.out]; exact T1.out) HB.out)
            have ML := Lib.hid ((mixN_len (neutralsN p.N way p.S p.E) p.N f).trans NL.out)
            obtain ⟨M, hM⟩ : ∃ M, Hid (M = mixN (neutralsN p.N way p.S p.E) p.N f) := ⟨_, Lib.hid rfl⟩
            rw [← hM.out] at MF ML R9
            have gah := HI.out ga rfl
            have q1 : f ≤ t := by omega
            have q2 : t ≤ c := by omega
            have q3 : f < c := by omega
            have q4 : (f : Int) ≤ (t : Int) := by omega
            have q5 : (t : Int) ≤ (c : Int) := by omega
            have BD := Lib.hid (show t + 1 = 0 ∨ isNeu (nth p.N (t + 1 - 1)) = false from by
              right
              rw [Nat.add_sub_cancel]
              rcases T1.out with e | e
              · rw [e]; unfold nth; rw [List.getElem?_eq_none (by rw [NL.out]; omega)]; rfl
              · exact e)
            clear b9 C2 AB8 rN8 P9 R8
            by_cases hq : a1 = a2
            · rw [if_pos hq] at NV
              have n1 : (a1 != a2) = false := by simp [hq]
              clear hq
              go_wp2_with fail
              refine (fill_any (hi := w1.heap.size) R9.out gah f (t - f) _ (by omega) hT ML.out a1).mono ?_
              rintro x w10 ⟨⟨rfl, r10⟩, o10⟩
              have R10 := Lib.hid (show Row7 w10 wa.heap.size (some ⟨ga, 0, none⟩) n c (mixN (neutralsN p.N way p.S p.E) p.N (t + 1)) by rw [← MF.out, NV.out]; exact r10)
              have HO10 := Lib.hid (HO9.out.trans o10)
              clear r10 o10
              go_wp2
              go_roundw
              case rel => exact ⟨t + 1, by omega, by go_num, R10, HO10, BD⟩
              case measure => first | omega | (simp [intOf]; omega)
            · rw [if_neg hq] at NV
              have n1 : (a1 != a2) = true := by simpa using hq
              clear hq
              go_wp2_with (go_at_call 76; refine (SW.out _).mono ?_; rintro e w' ⟨rfl, rfl⟩)
              refine (fill_any (hi := w1.heap.size) R9.out gah f (t - f) _ (by omega) hT ML.out way).mono ?_
              rintro x w10 ⟨⟨rfl, r10⟩, o10⟩
              have R10 := Lib.hid (show Row7 w10 wa.heap.size (some ⟨ga, 0, none⟩) n c (mixN (neutralsN p.N way p.S p.E) p.N (t + 1)) by rw [← MF.out, NV.out]; exact r10)
              have HO10 := Lib.hid (HO9.out.trans o10)
              clear r10 o10
              go_wp2
              go_roundw
              case rel => exact ⟨t + 1, by omega, by go_num, R10, HO10, BD⟩
              case measure => first | omega | (simp [intOf]; omega)
        · have tz : t = n ∨ isNeu (nth p.N t) = false := .inl (by omega)
          have tn : decide ((t : Int) < (n : Int)) = false := decide_eq_false (by omega)
          have tn2 : decide (t < n) = false := decide_eq_false ht
          have RQ := RP
          have HOQ := HOP
          generalize wp = wq at *
          clear ht
          have T1 := Lib.hid tz
          have P8 := Lib.hid (P3.out.out HOQ.out (by have := z0.out; omega) (by have := z0.out; omega))
          have AA := Lib.hid (AT1.out.out HOQ.out (by have := z3.out; omega) HG1.out)
          have AB := Lib.hid (AT2.out.out HOQ.out (by have := z3.out; omega) HG2.out)
          have rN : Hid (Rd wq (w.heap.size + 1) A2 (nums .i64 p.N)) := Lib.hid (by obtain ⟨A', c', e', r⟩ := P8.out.s2; have := (sl_eq e').1; subst this; exact r)
          have szq := psz
          have C1 := Lib.hid (sidesAt1_any A2 p.N c2 ga0 ga1 p.S ((f : Int) - 1) wq _ rN.out (by rw [NL.out]; exact AA.out.c1) AA.out.c2 (by rw [NL.out]; exact hT) (by have := AA.out.l1; omega) (by have := AA.out.l2; omega) (by have := z0.out; omega))
          obtain ⟨a1, ha1⟩ : ∃ a, Hid (nearS p.N ((f : Int) - 1) p.S = a) := ⟨_, Lib.hid rfl⟩
          obtain ⟨a2, ha2⟩ : ∃ a, Hid (nearS p.N (t : Int) p.E = a) := ⟨_, Lib.hid rfl⟩
          rw [ha1.out] at C1
          have NV : Hid (neuV p.N way p.S p.E f t = if a1 = a2 then a1 else way) := Lib.hid (by unfold neuV; rw [ha1.out, ha2.out])
          go_wp2_with fail
          refine C1.out.mono ?_
          rintro x w8 ⟨rfl, b8⟩
          have s8 := b8.size
          have R8 := Lib.hid (own_below RQ.out b8)
          have HO8 := Lib.hid (HOQ.out.trans (Out.of_below (lo := wa.heap.size) (hi := w1.heap.size) b8))
          have P9 := Lib.hid (P3.out.out HO8.out (by have := z0.out; omega) (by have := z0.out; omega))
          have AB8 := Lib.hid (AT2.out.out HO8.out (by have := z3.out; omega) HG2.out)
          have rN8 : Hid (Rd w8 (w.heap.size + 1) A2 (nums .i64 p.N)) := Lib.hid (by obtain ⟨A', c', e', r⟩ := P9.out.s2; have := (sl_eq e').1; subst this; exact r)
          have C2 := Lib.hid (sidesAt1_any A2 p.N c2 gb0 gb1 p.E (t : Int) w8 _ rN8.out (by rw [NL.out]; exact AB8.out.c1) AB8.out.c2 (by rw [NL.out]; exact hT) (by have := AB8.out.l1; omega) (by have := AB8.out.l2; omega) (by have := z0.out; omega))
          rw [ha2.out] at C2
          clear b8 C1 AA AB rN P8 RQ
          go_wp2_with fail
          refine C2.out.mono ?_
          rintro x w9 ⟨rfl, b9⟩
          have s9 := b9.size
          have R9 := Lib.hid (own_below R8.out b9)
          have HO9 := Lib.hid (HO8.out.trans (Out.of_below (lo := wa.heap.size) (hi := w1.heap.size) b9))
          have P10 := Lib.hid (P3.out.out HO9.out (by have := z0.out; omega) (by have := z0.out; omega))
          have f3 := P10.out.blk.cell 3 (u := .int .i64 p.L) rfl
          have MF := Lib.hid (mix_fill p.N way p.S p.E f t (by omega) (by rw [NL.out]; exact htn) HN1.out (by rw [NL.out]; exact T1.out) HB.out)
          have ML := Lib.hid ((mixN_len (neutralsN p.N way p.S p.E) p.N f).trans NL.out)
          obtain ⟨M, hM⟩ : ∃ M, Hid (M = mixN (neutralsN p.N way p.S p.E) p.N f) := ⟨_, Lib.hid rfl⟩
          rw [← hM.out] at MF ML R9
          have gah := HI.out ga rfl
          have q1 : f ≤ t := by omega
          have q2 : t ≤ c := by omega
          have q3 : f < c := by omega
          have q4 : (f : Int) ≤ (t : Int) := by omega
          have q5 : (t : Int) ≤ (c : Int) := by omega
          have BD := Lib.hid (show t + 1 = 0 ∨ isNeu (nth p.N (t + 1 - 1)) = false from by
            right
            rw [Nat.add_sub_cancel]
            rcases T1.out with e | e
            · rw [e]; unfold nth; rw [List.getElem?_eq_none (by rw [NL.out]; omega)]; rfl
            · exact e)
          clear b9 C2 AB8 rN8 P9 R8
          by_cases hq : a1 = a2
          · rw [if_pos hq] at NV
            have n1 : (a1 != a2) = false := by simp [hq]
            clear hq
            go_wp2_with fail
            refine (fill_any (hi := w1.heap.size) R9.out gah f (t - f) _ (by omega) hT ML.out a1).mono ?_
            rintro x w10 ⟨⟨rfl, r10⟩, o10⟩
            have R10 := Lib.hid (show Row7 w10 wa.heap.size (some ⟨ga, 0, none⟩) n c (mixN (neutralsN p.N way p.S p.E) p.N (t + 1)) by rw [← MF.out, NV.out]; exact r10)
            have HO10 := Lib.hid (HO9.out.trans o10)
            clear r10 o10
            go_wp2
            go_roundw
            case rel => exact ⟨t + 1, by omega, by go_num, R10, HO10, BD⟩
            case measure => first | omega | (simp [intOf]; omega)
          · rw [if_neg hq] at NV
            have n1 : (a1 != a2) = true := by simpa using hq
            clear hq
            go_wp2_with (go_at_call 76; refine (SW.out _).mono ?_; rintro e w' ⟨rfl, rfl⟩)
            refine (fill_any (hi := w1.heap.size) R9.out gah f (t - f) _ (by omega) hT ML.out way).mono ?_
            rintro x w10 ⟨⟨rfl, r10⟩, o10⟩
            have R10 := Lib.hid (show Row7 w10 wa.heap.size (some ⟨ga, 0, none⟩) n c (mixN (neutralsN p.N way p.S p.E) p.N (t + 1)) by rw [← MF.out, NV.out]; exact r10)
            have HO10 := Lib.hid (HO9.out.trans o10)
            clear r10 o10
            go_wp2
            go_roundw
            case rel => exact ⟨t + 1, by omega, by go_num, R10, HO10, BD⟩
            case measure => first | omega | (simp [intOf]; omega)
    · have E := Lib.hid (mixN_over (neutralsN p.N way p.S p.E) p.N (neutralsN_len _ _ _ _) f (by rw [NL.out]; omega))
      have len : n = (neutralsN p.N way p.S p.E).length := by rw [neutralsN_len, NL.out]
      have OW := Lib.hid (show Own wo w.heap.size wo.heap.size 2 .i64 (.slice A n c) (neutralsN p.N way p.S p.E) from (Own.mk_ (by have := hw.out; rw [E.out] at this; exact this) len).more (by have := z0.out; omega) (Nat.le_refl _))
      have BX := Lib.hid (B3.out.trans (ho.out.to_below (B := w.heap.size) (by have := z0.out; omega) (by have := z0.out; omega)))
      have nf : decide ((f : Int) < (n : Int)) = false := decide_eq_false (by omega)
      clear len hw ho
      go_wp2
      go_ret
      exact ⟨⟨_, rfl, OW.out⟩, BX.out⟩
end Go.Proofs.YtkkojemnbcddfaaDoor
