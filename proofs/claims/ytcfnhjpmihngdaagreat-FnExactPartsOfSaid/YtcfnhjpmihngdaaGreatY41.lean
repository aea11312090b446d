/- Chapter 5: the model's sequences. -/
import Derived.Test.YtcfnhjpmihngdaaGreatY33
import Derived.Test.YtcfnhjpmihngdaaGreatY38
import Derived.Test.YtcfnhjpmihngdaaGreatY39
import Derived.Test.YtcfnhjpmihngdaaGreatY31
import Derived.Test.YtcfnhjpmihngdaaGreatY15
import Derived.Test.YtcfnhjpmihngdaaGreatY16
import Derived.Test.YtcfnhjpmihngdaaGreatY40
import Derived.Deep.RegionLaw
import Derived.Deep.CutRange
namespace Go.Proofs.YtcfnhjpmihngdaaGreat
open Go.RowKit Go.Maps

set_option maxRecDepth 100000 in
set_option maxHeartbeats 4000000 in
theorem l5Sequences_any (A A3 : Option Addr) (zs ls : List Int) (c c3 : Nat) (b : Int) (w : World) (B : Nat) (hzr : Rd w B A (nums .i64 zs)) (hlr : Rd w B A3 (nums .i64 ls)) (hB : B ≤ w.heap.size) (hl : zs.length ≤ 600) (hz : zs.all chrB = true) (hb : 0 ≤ b ∧ b ≤ 1) (hls : ls = levN (classesN zs) b) :
    Calls Tryz.prog 14 #[.slice A zs.length c, .int .i64 b, .slice A3 ls.length c3] w fun e w' => (∃ u us, e = .returned u ∧ OwnQ w' w.heap.size w'.heap.size 43 2 u (seqsN (classesN zs) b) us) ∧ Below w.heap.size w w' := by
  obtain ⟨i0, hi, hz0, hz1, hz2⟩ := info_parts info_seq
  obtain ⟨i1, ki, kz0, kz1, kz2⟩ := info_parts info_int64
  obtain ⟨ks, hks⟩ : ∃ ks, Hid (ks = classesN zs) := ⟨_, Lib.hid rfl⟩
  have KL := Lib.hid (show ks.length = zs.length by rw [hks.out]; exact classesN_len zs)
  have LL := Lib.hid (show ls.length = zs.length by rw [hls, levN_len, classesN_len])
  have OK : Hid (RunsOk ks.length (matchN ks) (runsN ls)) := Lib.hid (by rw [hls, hks.out]; exact runs_ok (classesN zs) b (by rw [classesN_len]; exact hl))
  have CL : Hid (∀ (k : Nat) (w : World), k < zs.length → Calls Tryz.prog 22 #[.int .i64 (nth zs k)] w fun e w' => e = .returned (.int .i64 (nth ks k)) ∧ w = w') := Lib.hid (by
    intro k w hk
    have hch := chr_nth zs hz k hk
    have hz1' : 0 ≤ nth zs k := by simp only [chrB, decide_eq_true_eq] at hch; omega
    have := l2Class_any (nth zs k) w hz1'
    rwa [show classN (nth zs k) = nth ks k by rw [hks.out, classesN_nth zs k hk]] at this)
  have HLS := Lib.hid hls
  have HZR := Lib.hid hzr
  have HLR := Lib.hid hlr
  have HZ := Lib.hid hz
  have HBb := Lib.hid hb
  have llen : ls.length ≤ 600 := by have := LL.out; omega
  clear hzr hlr hz hls hb
  go_enter Tryz.func14, Tryz.ntmps14
  go_wp2_with fail
  refine (l3Matches_any A zs c w (HZR.out.more hB) hl HZ.out).mono ?_
  rintro e w1 ⟨⟨v1, rfl, o1⟩, b1⟩
  obtain ⟨A1, c1, rfl⟩ := o1.form
  rw [← hks.out] at o1 ⊢
  have RM1 := Lib.hid (Rd.of o1.1)
  have RZ1 := Lib.hid (HZR.out.below b1 hB)
  have RL1 := Lib.hid (HLR.out.below b1 hB)
  have B1 := Lib.hid b1
  have s1 := b1.size
  clear o1 b1
  go_wp2_with fail
  refine (l5Runs_any A3 ls c3 w1 B RL1.out (by omega) llen).mono ?_
  rintro e w2 ⟨⟨v2, rfl, o2⟩, b2⟩
  obtain ⟨AR, cR, rfl⟩ := o2.form
  have s2 := b2.size
  have B3 := Lib.hid ((below_on B1.out b2 (Nat.le_refl _)).alloc (by omega) (.cells #[] 43))
  have a2 := (Below.refl w2.heap.size w2).alloc (Nat.le_refl _) (.cells #[] 43)
  have RM := Lib.hid ((((RM1.out.below b2 (Nat.le_refl _)).more s2)).below a2 (Nat.le_refl _))
  have RZ := Lib.hid (((RZ1.out.below b2 (by omega)).more (show B ≤ w2.heap.size by omega)).below a2 (Nat.le_refl _))
  have RL := Lib.hid (((RL1.out.below b2 (by omega)).more (show B ≤ w2.heap.size by omega)).below a2 (Nat.le_refl _))
  have RR := Lib.hid (o2.sees.below a2 (Nat.le_refl _))
  have Q0 : Hid (OwnQ (w2.alloc (.cells #[] 43)) w2.heap.size (w2.heap.size + 1) 43 2 (.slice (some ⟨w2.heap.size, 0, none⟩) 0 0) (sqsOf ks (matchN ks) ls (runsN ls) b ((runsN ls).take 0)) []) := Lib.hid
    ⟨⟨own_more (World.ownsRow_lit w2 #[] 0 (Nat.le_refl _) (by unfold maxLen; omega) (by simp)) (Nat.le_refl _), fun g hg => by simp [Value.ownBlock] at hg; omega, fun k c hc => by obtain ⟨j, hj, _⟩ := contsQ_some _ _ _ _ hc; simp [sqsOf] at hj, fun k u hu => by simp at hu, fun i j u u' _ hu => by simp at hu, fun k u hu => by simp at hu⟩, fun j hj => by simp [sqsOf] at hj⟩
  clear o2 b2 a2 RM1 RZ1 RL1
  have rl := OK.out.len
  have sz3 : (w2.alloc (.cells #[] 43)).heap.size = w2.heap.size + 1 := by simp
  go_wp2
  generalize w2.alloc (.cells #[] 43) = w3 at *
  go_loopw [9, 10] (fun vO i wr => ∃ (k : Nat) (us : List Value), k ≤ (runsN ls).length ∧ i = .int .i64 k ∧
    Hid (OwnQ wr w2.heap.size wr.heap.size 43 2 vO (sqsOf ks (matchN ks) ls (runsN ls) b ((runsN ls).take k)) us) ∧ Hid (Below w2.heap.size w3 wr)) (fun _ i _ => (runsN ls).length + 1 - (intOf i).toNat)
  case atStart => exact ⟨0, [], by omega, rfl, Lib.hid (Q0.out.more (Nat.le_refl _) (by omega)), Lib.hid (Below.refl _ _)⟩
  case round =>
    clear Q0
    obtain ⟨k, us, hk, rfl, hq, hbr⟩ := hrel
    generalize wr = wo at *
    clear wr
    obtain ⟨AL, cL, rfl⟩ := hq.out.form
    have wsz : w2.heap.size + 1 ≤ wo.heap.size := by have := hbr.out.size; omega
    by_cases hlt : k < (runsN ls).length
    · have SS := Lib.hid (sqs_step ks (matchN ks) ls (runsN ls) b (runsN ls) k hlt)
      have RZr := Lib.hid (RZ.out.below hbr.out (Nat.le_refl _))
      have RMr := Lib.hid (RM.out.below hbr.out (Nat.le_refl _))
      have RLr := Lib.hid (RL.out.below hbr.out (Nat.le_refl _))
      have RRr := Lib.hid (RR.out.below hbr.out (Nat.le_refl _))
      obtain ⟨bR, oR, cR', u, e1, hbR, hcu, su⟩ := RRr.out.at_ k hlt
      cases e1
      have rm := nthL_mem hlt
      obtain ⟨r, hr⟩ : ∃ r, Hid (r = nthL (runsN ls) k) := ⟨_, Lib.hid rfl⟩
      rw [← hr.out] at su rm SS
      have re := OK.out.each r rm
      obtain ⟨Au, cu, rfl, ru⟩ := su
      obtain ⟨bu, ou, rfl, hbu, hcr⟩ := ru.int re.1
      have hf0 := hcr 0 re.1
      obtain ⟨x, hx⟩ : ∃ x : Nat, Hid (nth r 0 = (x : Int)) := ⟨(nth r 0).toNat, Lib.hid (by have := re.2.2 _ (nth_mem re.1); show nth _ _ = _; omega)⟩
      have xlt : x < zs.length := by have h1 := re.2.2 _ (nth_mem re.1); rw [hx.out] at h1; have := KL.out; omega
      have BK := Lib.hid (begins_kind (ks := ks) (r := r) (re.2.2 _ (nth_mem re.1)))
      rw [hx.out, Nat.add_zero] at hf0
      rw [hx.out] at BK
      have RE := Lib.hid re
      have RMM := Lib.hid rm
      have rpos := re.1
      obtain ⟨bz, oz, rfl, hbz, hcz⟩ := RZr.out.int (by omega)
      have hz0' := hcz x xlt
      have CX := Lib.hid (fun w => CL.out x w xlt)
      obtain ⟨bm, om, eA1, hbm, hcm⟩ := RMr.out.int (by rw [matchN_len, KL.out]; omega)
      cases eA1
      have hm0 := hcm x (by rw [matchN_len, KL.out]; exact xlt)
      obtain ⟨zx, hzx⟩ : ∃ zx, Hid (zx = nth zs x) := ⟨_, Lib.hid rfl⟩
      obtain ⟨qx, hqx⟩ : ∃ qx, Hid (qx = nth ks x) := ⟨_, Lib.hid rfl⟩
      obtain ⟨yx, hyx⟩ : ∃ yx, Hid (yx = nth (matchN ks) x) := ⟨_, Lib.hid rfl⟩
      have BK2 : Hid ((qx = 22 ∧ 0 ≤ yx) ↔ beginsN (matchN ks) r = false) := Lib.hid (by rw [hqx.out, hyx.out]; have := BK.out; rwa [Int.toNat_natCast] at this)
      rw [← hzx.out] at hz0' CX
      rw [← hqx.out] at CX
      rw [← hyx.out] at hm0
      obtain ⟨Q, hQ⟩ : ∃ Q, Hid (Q = sqsOf ks (matchN ks) ls (runsN ls) b ((runsN ls).take k)) := ⟨_, Lib.hid rfl⟩
      have QL : Q.length ≤ 600 := by rw [hQ.out]; have := sqsOf_len (ks := ks) (M := matchN ks) (ls := ls) (R := runsN ls) (b := b) ((runsN ls).take k); rw [List.length_take] at this; omega
      rw [← hQ.out] at hq SS ⊢
      have mlen := Lib.hid (show (matchN ks).length = zs.length by rw [matchN_len, KL.out])
      rw [mlen.out] at *
      clear hcr hcz hcm ru re rm BK
      by_cases hbg : beginsN (matchN ks) r = true
      · have ES := Lib.hid (show sqsOf ks (matchN ks) ls (runsN ls) b ((runsN ls).take (k + 1)) = Q ++ [sqOf ks (matchN ks) ls (runsN ls) b r] by rw [SS.out, if_pos hbg])
        have NB : ¬ (qx = 22 ∧ 0 ≤ yx) := fun h => by have := BK2.out.1 h; rw [hbg] at this; cases this
        obtain ⟨T, hT⟩ : ∃ T, Hid (T = chain (nextR (matchN ks) (runsN ls)) ls.length r) := ⟨_, Lib.hid rfl⟩
        have TL : T.length ≤ 360000 := by rw [hT.out]; have := chain_len OK.out ls.length r RE.out.2.1; omega
        obtain ⟨b3, o3, eA3, hb3, hc3⟩ := RLr.out.int (by have := LL.out; omega)
        cases eA3
        have xls : x < ls.length := by have := LL.out; omega
        have hl3 := hc3 x xls
        obtain ⟨lx, hlx⟩ : ∃ lx, Hid (lx = nth ls x) := ⟨_, Lib.hid rfl⟩
        rw [← hlx.out] at hl3
        have Kq := Lib.hid (Blk.new wo 43 #[.slice none 0 0, .int .i64 lx, .int .i64 0, .int .i64 0])
        have Bq := Lib.hid ((Below.refl wo.heap.size wo).alloc (Nat.le_refl _) (.cells #[.slice none 0 0, .int .i64 lx, .int .i64 0, .int .i64 0] 43))
        have START : Hid ([] ++ chain (nextR (matchN ks) (runsN ls)) ls.length r = T) := Lib.hid (by rw [hT.out]; rfl)
        have REL0 : Hid ((r.length ≠ 0 → ∃ i : Nat, Value.int .i64 (k : Int) = .int .i64 (i : Int) ∧ i < (runsN ls).length ∧ r = nthL (runsN ls) i ∧ ((ls.length : Nat) : Int) ≤ ((ls.length : Nat) : Int) + lastOf r) ∧ (r.length = 0 → Value.int .i64 (k : Int) = .int .i64 (-1) ∧ (isOp (nth ks (lastOf ([] : List Int)).toNat) → nth (matchN ks) (lastOf ([] : List Int)).toNat < 0))) := Lib.hid
          ⟨fun _ => ⟨k, rfl, hlt, hr.out, by have := (RE.out.2.2 _ (lastOf_mem RE.out.1)).1; omega⟩, fun h => by omega⟩
        have O0 : Hid (Own (wo.alloc (.cells #[.slice none 0 0, .int .i64 lx, .int .i64 0, .int .i64 0] 43)) (wo.heap.size + 1) (wo.heap.size + 1) 2 .i64 (.slice none 0 0) []) := Lib.hid (Own.nil _ _ _ _ _)
        have GD : (Hid ((qx == 22) = false)) ∨ (Hid ((qx == 22) = true ∧ decide (0 ≤ yx) = false)) := by
          by_cases h : qx = 22
          · exact .inr (Lib.hid ⟨by simp [h], decide_eq_false fun h2 => NB ⟨h, h2⟩⟩)
          · exact .inl (Lib.hid (by simpa using h))
        clear hbg SS NB hc3
        go_upto_region 8 with fail
        go_cut [46] from 22 to 123 (fun s46 wc => s46 = .bool false ∧ wc = wo)
        case first =>
          rcases GD with GD | GD
          · have g1 := GD.out
            go_wp2_with (go_at_call 22; refine (CX.out _).mono ?_; rintro e w' ⟨rfl, rfl⟩)
            go_meet
            exact ⟨rfl, rfl⟩
          · obtain ⟨g1, g2⟩ := GD.out
            go_wp2_with (go_at_call 22; refine (CX.out _).mono ?_; rintro e w' ⟨rfl, rfl⟩)
            go_meet
            exact ⟨rfl, rfl⟩
        case rest =>
          obtain ⟨rfl, hwc⟩ := hcut
          subst hwc
          generalize wc = wo at *
          clear wc
          go_wp2
          have sq : (wo.alloc (.cells #[.slice none 0 0, .int .i64 lx, .int .i64 0, .int .i64 0] 43)).heap.size = wo.heap.size + 1 := by simp
          generalize wo.alloc (.cells #[.slice none 0 0, .int .i64 lx, .int .i64 0, .int .i64 0] 43) = wq at *
          go_loopg [13, 14] ls.length (fun gk vl va wi => ∃ (P r' : List Int) (vP : Value) (lz : Int), Hid (P ++ chain (nextR (matchN ks) (runsN ls)) gk r' = T) ∧ vl = .int .i64 lz ∧ Hid (P.length ≠ 0 → lz = lastOf P) ∧
            Hid ((r'.length ≠ 0 → ∃ i : Nat, va = .int .i64 (i : Int) ∧ i < (runsN ls).length ∧ r' = nthL (runsN ls) i ∧ ((ls.length : Nat) : Int) ≤ (gk : Int) + lastOf r') ∧ (r'.length = 0 → va = .int .i64 (-1) ∧ (isOp (nth ks (lastOf P).toNat) → nth (matchN ks) (lastOf P).toNat < 0))) ∧
            Hid (Blk wi wo.heap.size 43 #[vP, .int .i64 lx, .int .i64 0, .int .i64 0]) ∧ Hid (Own wi (wo.heap.size + 1) wi.heap.size 2 .i64 vP P) ∧ Hid (Below wo.heap.size wo wi) ∧ wo.heap.size + 1 ≤ wi.heap.size)
          case atStart => exact ⟨[], r, _, x, START, rfl, Lib.hid (fun h => absurd rfl h), REL0, Kq, Lib.hid (Own.nil _ _ _ _ _), Bq, by omega⟩
          case round =>
            clear START REL0 Kq Bq
            obtain ⟨P, r', vP, lz, hP, rfl, hlz, hrel', hkq, hO, hbi, wisz⟩ := hrel
            obtain ⟨AP, cP, rfl⟩ := hO.out.form
            by_cases h0 : r'.length = 0
            · obtain ⟨rfl, hend⟩ := hrel'.out.2 h0
              have EP : Hid (P = T) := Lib.hid (by have := hP.out; rw [List.eq_nil_of_length_eq_zero h0, chain_nil, List.append_nil] at this; exact this)
              have lq := EP.out
              subst lq
              have TP := Lib.hid (show 0 < P.length ∧ nth P 0 = nth r 0 by
                rw [hT.out]
                have hx' : ls.length = (ls.length - 1) + 1 := by have := LL.out; omega
                rw [hx', chain_cons _ _ _ (by omega)]
                exact ⟨by simp; omega, nth_left _ _ _ rpos⟩)
              have LZ := Lib.hid (hlz.out (by have := TP.out.1; omega))
              have CB := Lib.hid (show 0 ≤ lastOf P ∧ lastOf P < ks.length from chain_bound OK.out ls.length r (fun _ => RMM.out) _ (by rw [← hT.out]; exact lastOf_mem TP.out.1))
              obtain ⟨y, hy⟩ : ∃ y : Nat, Hid (lastOf P = (y : Int)) := ⟨(lastOf P).toNat, Lib.hid (by have := CB.out; show lastOf _ = _; omega)⟩
              have ylt : y < zs.length := by have h1 := CB.out; rw [hy.out] at h1; have := KL.out; omega
              have yls : y < ls.length := by have := LL.out; omega
              have elz : lz = (y : Int) := by rw [LZ.out, hy.out]
              subst elz
              have RZ6 := Lib.hid (RZr.out.below hbi.out (by omega))
              have RL6 := Lib.hid (RLr.out.below hbi.out (by omega))
              obtain ⟨_, _, ez, _, hcz⟩ := RZ6.out.int (by omega)
              cases ez
              have hzy := hcz y ylt
              have CY := Lib.hid (fun w => CL.out y w ylt)
              have HEND := Lib.hid (show isOp (nth ks y) → nth (matchN ks) y < 0 by have := hend; rwa [hy.out, Int.toNat_natCast] at this)
              have EB : Hid (behindN ks (matchN ks) ls b (y : Int) = if isOp (nth ks y) then b else firstK b (ls.drop (y + 1))) := Lib.hid (by
                unfold behindN
                rw [Int.toNat_natCast]
                by_cases h : isOp (nth ks y)
                · rw [if_pos ⟨h, HEND.out h⟩, if_pos h]
                · rw [if_neg (fun h2 => h h2.1), if_neg h])
              have EQ2 : Hid (sqOf ks (matchN ks) ls (runsN ls) b r = ⟨P, lx, sideN (mx lx (aheadN ls b x)), sideN (mx lx (behindN ks (matchN ks) ls b (y : Int)))⟩) := Lib.hid (by
                unfold sqOf
                rw [← hT.out, hx.out, hy.out, Int.toNat_natCast, hlx.out]
                simp [lev])
              obtain ⟨zy, hzy'⟩ : ∃ zy, Hid (zy = nth zs y) := ⟨_, Lib.hid rfl⟩
              obtain ⟨qy, hqy⟩ : ∃ qy, Hid (qy = nth ks y) := ⟨_, Lib.hid rfl⟩
              rw [← hzy'.out] at hzy CY
              rw [← hqy.out] at CY EB
              have k1 := hkq.out.cell 1 (u := .int .i64 lx) rfl
              have k0 := hkq.out.cell 0 (u := .slice AP P.length cP) rfl
              have k2 := hkq.out.cell 2 (u := .int .i64 0) rfl
              have k3 := hkq.out.cell 3 (u := .int .i64 0) rfl
              have f2 := hkq.out.frozen 2
              have f3 := hkq.out.frozen 3
              have wx : IntKind.i64.wrap ((x : Int) - 1) = (x : Int) - 1 := by rw [IntKind.wrap_i64]; omega
              have wy : IntKind.i64.wrap ((y : Int) + 1) = (y : Int) + 1 := by rw [IntKind.wrap_i64]; omega
              have CBACK := Lib.hid (fun w' (h : Rd w' w2.heap.size (some ⟨b3, o3, none⟩) (nums .i64 ls)) => l5Kept_back (some ⟨b3, o3, none⟩) ls c3 b w' w2.heap.size h llen x (by omega))
              have CON := Lib.hid (fun w' (h : Rd w' w2.heap.size (some ⟨b3, o3, none⟩) (nums .i64 ls)) => l5Kept_on (some ⟨b3, o3, none⟩) ls c3 b w' w2.heap.size h llen y yls)
              obtain ⟨ah, hah⟩ : ∃ ah, Hid (ah = aheadN ls b x) := ⟨_, Lib.hid rfl⟩
              obtain ⟨fh, hfh⟩ : ∃ fh, Hid (fh = firstK b (ls.drop (y + 1))) := ⟨_, Lib.hid rfl⟩
              rw [← hah.out] at CBACK EQ2
              rw [← hfh.out] at CON EB
              rw [EB.out] at EQ2
              clear hP EP hrel' hend h0 hcz hlz
              by_cases hopq : isOp qy
              · have ESQ := Lib.hid (show sqOf ks (matchN ks) ls (runsN ls) b r = ⟨P, lx, sideN (mx lx ah), sideN (mx lx b)⟩ by rw [EQ2.out, if_pos hopq])
                have hob : opB qy = true := decide_eq_true hopq
                have KS := Lib.hid ((hkq.out.set 2 (.int .i64 (sideN (mx lx ah)))).set 3 (.int .i64 (sideN (mx lx b))))
                have BS := Lib.hid ((hbi.out.setCell (p := ⟨wo.heap.size, 2, none⟩) (Nat.le_refl _) (.int .i64 (sideN (mx lx ah)))).setCell (p := ⟨wo.heap.size, 3, none⟩) (Nat.le_refl _) (.int .i64 (sideN (mx lx b))))
                have OS := Lib.hid ((hO.out.set ⟨wo.heap.size, 2, none⟩ (.int .i64 (sideN (mx lx ah))) (.inl (Nat.lt_succ_self _))).set ⟨wo.heap.size, 3, none⟩ (.int .i64 (sideN (mx lx b))) (.inl (Nat.lt_succ_self _)))
                have QS := Lib.hid ((hq.out.below BS.out (Nat.le_refl _)).alloc (.cells #[.slice AP P.length cP, .int .i64 lx, .int .i64 (sideN (mx lx ah)), .int .i64 (sideN (mx lx b))] 43))
                have OS2 := Lib.hid (OS.out.alloc (.cells #[.slice AP P.length cP, .int .i64 lx, .int .i64 (sideN (mx lx ah)), .int .i64 (sideN (mx lx b))] 43))
                have szs : ((wr.setCell ⟨wo.heap.size, 2, none⟩ (.int .i64 (sideN (mx lx ah)))).setCell ⟨wo.heap.size, 3, none⟩ (.int .i64 (sideN (mx lx b)))).heap.size = wr.heap.size := by simp
                have RS := Lib.hid (by have q := Rd.lit ((wr.setCell ⟨wo.heap.size, 2, none⟩ (.int .i64 (sideN (mx lx ah)))).setCell ⟨wo.heap.size, 3, none⟩ (.int .i64 (sideN (mx lx b)))) #[.slice AP P.length cP, .int .i64 lx, .int .i64 (sideN (mx lx ah)), .int .i64 (sideN (mx lx b))] 43; rw [szs] at q; exact q)
                clear hopq EQ2 EB
                have tok1 : True := trivial
                go_wp2_with (first
                  | (go_at_call 33; refine (CBACK.out _ RL6.out).mono ?_; rintro e w' ⟨rfl, rfl⟩; clear CBACK)
                  | (go_at_call 33; refine (CON.out _ RL6.out).mono ?_; rintro e w' ⟨rfl, rfl⟩; clear CON)
                  | (go_at_call 22; refine (CY.out _).mono ?_; rintro e w' ⟨rfl, rfl⟩)
                  | (go_at_call 31; refine (l3Opens_any _ _).mono ?_; rintro e w' ⟨rfl, rfl⟩; rw [hob])
                  | (go_at_call 35; refine (l1Max_any _ _ _).mono ?_; rintro e w' ⟨rfl, rfl⟩)
                  | (go_at_call 34; refine (specSideOf_any _ _).mono ?_; rintro e w' ⟨rfl, rfl⟩)
                  | (have _t := tok1; at_builtin; go_loud (refine wpList_app rfl _ _ _ rfl w2.heap.size Tryz.underlying36 hi hz0 hz1 hz2 rfl (by omega) rfl QS.out.rows.row rfl RS.out (m := 1) rfl (qcells_one AP P.length cP ⟨P, lx, sideN (mx lx ah), sideN (mx lx b)⟩) (by omega) (by omega) (by simp; omega) ?_); intro v7 w7 o7 g7 a7; clear tok1; obtain ⟨A7, c7, rfl⟩ := own_form o7))
                have Q7 := Lib.hid (QS.out.push (mid := wo.heap.size) (hi := wr.heap.size) (by omega) (by simp) (by omega) (q := ⟨P, lx, sideN (mx lx ah), sideN (mx lx b)⟩) (OS2.out.more (by omega) (Nat.le_refl _)) o7 g7 a7)
                have B7 := Lib.hid ((hbr.out.trans ((BS.out.mono (by omega)).alloc (by simp; omega) (.cells #[.slice AP P.length cP, .int .i64 lx, .int .i64 (sideN (mx lx ah)), .int .i64 (sideN (mx lx b))] 43))).grown g7 (by simp; omega) (fun bb hbb => (QS.out.rows.vlt bb hbb).1))
                rw [← ESQ.out, ← ES.out] at Q7
                clear o7 g7 a7
                go_roundw
                case rel => exact ⟨k + 1, _, by omega, by go_num, Q7, B7⟩
                case measure => first | omega | (simp [intOf]; omega)
              · have ESQ := Lib.hid (show sqOf ks (matchN ks) ls (runsN ls) b r = ⟨P, lx, sideN (mx lx ah), sideN (mx lx fh)⟩ by rw [EQ2.out, if_neg hopq])
                have hob : opB qy = false := decide_eq_false hopq
                have KS := Lib.hid ((hkq.out.set 2 (.int .i64 (sideN (mx lx ah)))).set 3 (.int .i64 (sideN (mx lx fh))))
                have BS := Lib.hid ((hbi.out.setCell (p := ⟨wo.heap.size, 2, none⟩) (Nat.le_refl _) (.int .i64 (sideN (mx lx ah)))).setCell (p := ⟨wo.heap.size, 3, none⟩) (Nat.le_refl _) (.int .i64 (sideN (mx lx fh))))
                have OS := Lib.hid ((hO.out.set ⟨wo.heap.size, 2, none⟩ (.int .i64 (sideN (mx lx ah))) (.inl (Nat.lt_succ_self _))).set ⟨wo.heap.size, 3, none⟩ (.int .i64 (sideN (mx lx fh))) (.inl (Nat.lt_succ_self _)))
                have QS := Lib.hid ((hq.out.below BS.out (Nat.le_refl _)).alloc (.cells #[.slice AP P.length cP, .int .i64 lx, .int .i64 (sideN (mx lx ah)), .int .i64 (sideN (mx lx fh))] 43))
                have OS2 := Lib.hid (OS.out.alloc (.cells #[.slice AP P.length cP, .int .i64 lx, .int .i64 (sideN (mx lx ah)), .int .i64 (sideN (mx lx fh))] 43))
                have szs : ((wr.setCell ⟨wo.heap.size, 2, none⟩ (.int .i64 (sideN (mx lx ah)))).setCell ⟨wo.heap.size, 3, none⟩ (.int .i64 (sideN (mx lx fh)))).heap.size = wr.heap.size := by simp
                have RS := Lib.hid (by have q := Rd.lit ((wr.setCell ⟨wo.heap.size, 2, none⟩ (.int .i64 (sideN (mx lx ah)))).setCell ⟨wo.heap.size, 3, none⟩ (.int .i64 (sideN (mx lx fh)))) #[.slice AP P.length cP, .int .i64 lx, .int .i64 (sideN (mx lx ah)), .int .i64 (sideN (mx lx fh))] 43; rw [szs] at q; exact q)
                clear hopq EQ2 EB
                have tok1 : True := trivial
                go_wp2_with (first
                  | (go_at_call 33; refine (CBACK.out _ RL6.out).mono ?_; rintro e w' ⟨rfl, rfl⟩; clear CBACK)
                  | (go_at_call 33; refine (CON.out _ RL6.out).mono ?_; rintro e w' ⟨rfl, rfl⟩; clear CON)
                  | (go_at_call 22; refine (CY.out _).mono ?_; rintro e w' ⟨rfl, rfl⟩)
                  | (go_at_call 31; refine (l3Opens_any _ _).mono ?_; rintro e w' ⟨rfl, rfl⟩; rw [hob])
                  | (go_at_call 35; refine (l1Max_any _ _ _).mono ?_; rintro e w' ⟨rfl, rfl⟩)
                  | (go_at_call 34; refine (specSideOf_any _ _).mono ?_; rintro e w' ⟨rfl, rfl⟩)
                  | (have _t := tok1; at_builtin; go_loud (refine wpList_app rfl _ _ _ rfl w2.heap.size Tryz.underlying36 hi hz0 hz1 hz2 rfl (by omega) rfl QS.out.rows.row rfl RS.out (m := 1) rfl (qcells_one AP P.length cP ⟨P, lx, sideN (mx lx ah), sideN (mx lx fh)⟩) (by omega) (by omega) (by simp; omega) ?_); intro v7 w7 o7 g7 a7; clear tok1; obtain ⟨A7, c7, rfl⟩ := own_form o7))
                have Q7 := Lib.hid (QS.out.push (mid := wo.heap.size) (hi := wr.heap.size) (by omega) (by simp) (by omega) (q := ⟨P, lx, sideN (mx lx ah), sideN (mx lx fh)⟩) (OS2.out.more (by omega) (Nat.le_refl _)) o7 g7 a7)
                have B7 := Lib.hid ((hbr.out.trans ((BS.out.mono (by omega)).alloc (by simp; omega) (.cells #[.slice AP P.length cP, .int .i64 lx, .int .i64 (sideN (mx lx ah)), .int .i64 (sideN (mx lx fh))] 43))).grown g7 (by simp; omega) (fun bb hbb => (QS.out.rows.vlt bb hbb).1))
                rw [← ESQ.out, ← ES.out] at Q7
                clear o7 g7 a7
                go_roundw
                case rel => exact ⟨k + 1, _, by omega, by go_num, Q7, B7⟩
                case measure => first | omega | (simp [intOf]; omega)
            · obtain ⟨i, rfl, hir, er, hgl⟩ := hrel'.out.1 h0
              cases gk with
              | zero =>
                exfalso
                have q := (OK.out.each r' (by rw [er]; exact nthL_mem hir))
                have := (q.2.2 _ (lastOf_mem q.1)).2
                have := LL.out; have := KL.out
                omega
              | succ gk' =>
                have RRi := Lib.hid (RRr.out.below hbi.out (by omega))
                obtain ⟨bR', oR', cR'', u', e1, _, hcu', su'⟩ := RRi.out.at_ i hir
                cases e1
                rw [← er] at su'
                have re' := OK.out.each r' (by rw [er]; exact nthL_mem hir)
                obtain ⟨Au', cu', rfl, ru'⟩ := su'
                have EP := Lib.hid (show (P ++ r') ++ chain (nextR (matchN ks) (runsN ls)) gk' (nextR (matchN ks) (runsN ls) r') = T by have := hP.out; rw [chain_cons _ _ _ h0] at this; rw [List.append_assoc]; exact this)
                have pl : P.length + r'.length ≤ 360000 := by
                  have := congrArg List.length EP.out
                  simp at this; omega
                have RU' := Lib.hid (ru'.below (drew_below wr) (by omega))
                have x0 := hkq.out.cell 0 (u := .slice AP P.length cP) rfl
                have OD : Hid ((wr.drew).ownsRow (wo.heap.size + 1) 2 1 (.slice AP P.length cP) P.length (nums .i64 P)) := Lib.hid hO.out.1
                have ND := Lib.hid (fun h => OK.out.next r' (by rw [er]; exact nthL_mem hir) h)
                have RE' := Lib.hid re'
                have HGL := Lib.hid hgl
                have hi0 : (0 : Int) ≤ (i : Int) := by omega
                have hi1 : (i : Int) < ((runsN ls).length : Int) := by omega
                clear ru' re' er hgl hP h0 hrel' RRi hlz
                go_wp2
                go_region_law (refine step_apps (by rfl) _ _ _ rfl (wo.heap.size + 1) Tryz.underlying22 ki kz0 kz1 kz2 rfl (by omega) rfl OD.out rfl (B := w2.heap.size) (A := Au') (m := r'.length) (c := cu') (news := nums .i64 r') RU'.out (by rw [nums_length, Nat.mul_one]) (nums_one .i64 r') (by omega) (by omega) wisz ?_; intro v5 w5 o5 g5 a5; obtain ⟨A5, c5, rfl⟩ := own_form o5; have sz5 : wr.heap.size ≤ w5.heap.size := g5.size; have KP : Blk w5 wo.heap.size _ _ := (g5.block wo.heap.size hkq.out.lt (fun e => by have := (OD.out.lt _ e.symm).1; omega)).trans hkq.out; have x1 := KP.cell 0 (u := .slice AP P.length cP) rfl; have x2 := KP.frozen 0; have K6 := Lib.hid (KP.set 0 (.slice A5 (P.length + r'.length) c5)); have o6 : w5.ownsRow (wo.heap.size + 1) 2 1 (.slice A5 (P.length + r'.length) c5) (P.length + r'.length) (nums .i64 (P ++ r')) := (by rw [nums_app]; exact o5); have O6 := Lib.hid ((Own.mk_ o6 (by rw [List.length_append])).set ⟨wo.heap.size, 0, none⟩ (.slice A5 (P.length + r'.length) c5) (.inl (Nat.lt_succ_self _))); have B6 := Lib.hid (((below_draw wr 0 wo.heap.size).trans ((Below.refl wo.heap.size wr).grown ⟨g5.os, g5.tape, g5.output, g5.size, g5.block⟩ (by omega) (fun b hb => by have := (OD.out.lt b hb).1; omega))).setCell (p := ⟨wo.heap.size, 0, none⟩) (Nat.le_refl _) (.slice A5 (P.length + r'.length) c5)); clear KP o5 g5 a5 o6)
                all_goals
                  have s6 : (w5.setCell ⟨wo.heap.size, 0, none⟩ (.slice A5 (P.length + r'.length) c5)).heap.size = w5.heap.size := by simp
                  generalize w5.setCell ⟨wo.heap.size, 0, none⟩ (.slice A5 (P.length + r'.length) c5) = w6 at *
                  have BI := Lib.hid (hbi.out.trans B6.out)
                  have RE2 := RE'.out
                  obtain ⟨m, hm⟩ : ∃ m, Hid (P.length + r'.length = m + 1) := ⟨P.length + r'.length - 1, Lib.hid (by show P.length + r'.length = _; omega)⟩
                  have O7 := O6.out.1
                  rw [List.length_append] at O7
                  rw [hm.out] at O7 K6 ⊢
                  obtain ⟨gp, cp, eA5, hgp⟩ := own_addr O7 (by omega)
                  injection eA5 with eA5 e2 e3
                  subst eA5; subst e3
                  clear e2
                  have cpm := (own_cap O7).1
                  have pm := own_cell O7 m (by omega)
                  have lo : nth (P ++ r') m = lastOf r' := by
                    have e1 : lastOf (P ++ r') = lastOf r' := lastOf_app P r' RE2.1
                    have e2 : lastOf (P ++ r') = nth (P ++ r') m := by unfold lastOf; rw [List.length_append, hm.out]; rfl
                    rw [← e2, e1]
                  have yb := RE2.2.2 _ (lastOf_mem RE2.1)
                  obtain ⟨y, hy⟩ : ∃ y : Nat, Hid (lastOf r' = (y : Int)) := ⟨(lastOf r').toNat, Lib.hid (by show lastOf _ = _; omega)⟩
                  rw [lo, hy.out] at pm
                  have LA := Lib.hid (show lastOf (P ++ r') = (y : Int) by rw [lastOf_app P r' RE2.1, hy.out])
                  have ylt : y < zs.length := by rw [hy.out] at yb; have := KL.out; omega
                  have c0 := K6.out.cell 0 (u := .slice (some ⟨gp, 0, none⟩) (m + 1) c5) rfl
                  have mb : m < 400000 := by have := hm.out; omega
                  have wm : IntKind.i64.wrap ((m : Int) + 1 - 1) = (m : Int) := by rw [IntKind.wrap_i64]; omega
                  have wm2 : IntKind.i64.wrap (m : Int) = (m : Int) := by rw [IntKind.wrap_i64]; omega
                  have m0 : (0 : Int) ≤ (m : Int) := by omega
                  have m1 : (m : Int) < (m : Int) + 1 := by omega
                  have RZ6 := Lib.hid (RZr.out.below BI.out (by omega))
                  have RM6 := Lib.hid (RMr.out.below BI.out (by omega))
                  have RR6 := Lib.hid (RRr.out.below BI.out (by omega))
                  obtain ⟨_, _, ez, _, hcz⟩ := RZ6.out.int (by omega)
                  cases ez
                  have hzy := hcz y ylt
                  obtain ⟨_, _, em, _, hcm⟩ := RM6.out.int (by rw [matchN_len, KL.out]; omega)
                  cases em
                  have hmy := hcm y (by rw [matchN_len, KL.out]; exact ylt)
                  have CY := Lib.hid (fun w => CL.out y w ylt)
                  have MK := Lib.hid (match_kind ks y (by have := KL.out; omega))
                  have NXE := Lib.hid (show nextR (matchN ks) (runsN ls) r' = if nth (matchN ks) y < (y : Int) then [] else findR (runsN ls) (nth (matchN ks) y) by unfold nextR; rw [hy.out, Int.toNat_natCast])
                  have MKP := Lib.hid (fun h0 => match_kept HBb.out (ks := ks) (p := y) (by have := KL.out; omega) h0)
                  have KSL := Lib.hid (show runsN (levN ks b) = runsN ls by rw [HLS.out, ← hks.out])
                  obtain ⟨zy, hzy'⟩ : ∃ zy, Hid (zy = nth zs y) := ⟨_, Lib.hid rfl⟩
                  obtain ⟨qy, hqy⟩ : ∃ qy, Hid (qy = nth ks y) := ⟨_, Lib.hid rfl⟩
                  obtain ⟨yy, hyy⟩ : ∃ yy, Hid (yy = nth (matchN ks) y) := ⟨_, Lib.hid rfl⟩
                  rw [← hzy'.out] at hzy CY
                  rw [← hqy.out] at CY MK
                  rw [← hyy.out] at hmy MK NXE MKP
                  rw [KSL.out] at MKP
                  clear hcz hcm O7 lo yb hkq hO hbi
                  by_cases hopq : isOp qy
                  · by_cases hyn : 0 ≤ yy
                    · have NX := Lib.hid (show nextR (matchN ks) (runsN ls) r' = findR (runsN ls) yy by
                        rw [NXE.out, if_neg]
                        rcases MK.out with h | ⟨h, _⟩ | ⟨_, h, _⟩
                        · omega
                        · unfold isOp at hopq; omega
                        · omega)
                      obtain ⟨i2, hi2⟩ := MKP.out hyn
                      have is2 := idxR_some hi2
                      have IX := Lib.hid (show idxI (runsN ls) yy = (i2 : Int) by unfold idxI; rw [hi2])
                      have FX := Lib.hid (show findR (runsN ls) yy = nthL (runsN ls) i2 by unfold findR; rw [hi2])
                      have i2l := is2.1
                      have hd : decide (0 ≤ yy) = true := decide_eq_true hyn
                      have hob : opB qy = true := decide_eq_true hopq
                      clear hopq hyn is2 hi2
                      go_wp2_with (first
                        | (go_at_call 22; refine (CY.out _).mono ?_; rintro e w' ⟨rfl, rfl⟩)
                        | (go_at_call 31; refine (l3Opens_any _ _).mono ?_; rintro e w' ⟨rfl, rfl⟩; rw [hob])
                        | (go_at_call 32; refine (l5With_any _ (runsN ls) yy _ _ RR6.out (fun q hq => (OK.out.each q hq).2.1) rl).mono ?_; rintro e w' ⟨rfl, rfl⟩; rw [IX.out]))
                      have REL := Lib.hid (show ((nextR (matchN ks) (runsN ls) r').length ≠ 0 → ∃ i : Nat, Value.int .i64 (i2 : Int) = .int .i64 (i : Int) ∧ i < (runsN ls).length ∧ nextR (matchN ks) (runsN ls) r' = nthL (runsN ls) i ∧ ((ls.length : Nat) : Int) ≤ (gk' : Int) + lastOf (nextR (matchN ks) (runsN ls) r')) ∧ ((nextR (matchN ks) (runsN ls) r').length = 0 → Value.int .i64 (i2 : Int) = .int .i64 (-1) ∧ (isOp (nth ks (lastOf (P ++ r')).toNat) → nth (matchN ks) (lastOf (P ++ r')).toNat < 0)) by
                        refine ⟨fun h => ⟨i2, rfl, i2l, by rw [NX.out, FX.out], ?_⟩, fun h => ?_⟩
                        · have := (ND.out h).2
                          have hg := HGL.out
                          omega
                        · rw [NX.out, FX.out] at h
                          have := (OK.out.each _ (nthL_mem i2l)).1
                          omega)
                      go_roundg gk'
                      case measure => omega
                      case rel => exact ⟨P ++ r', nextR (matchN ks) (runsN ls) r', _, y, EP, rfl, Lib.hid (fun _ => LA.out.symm), REL, K6, Lib.hid (by have := O6.out.more (Nat.le_refl _) (show w5.heap.size ≤ w6.heap.size by omega); rw [hm.out] at this; exact this), BI, by omega⟩
                    · have NX := Lib.hid (show nextR (matchN ks) (runsN ls) r' = [] by rw [NXE.out, if_pos (by omega)])
                      have HOP := Lib.hid (fun (_ : isOp qy) => (show yy < 0 by omega))
                      have hd : decide (0 ≤ yy) = false := decide_eq_false hyn
                      have hob : opB qy = true := decide_eq_true hopq
                      clear hopq hyn
                      go_wp2_with (first
                        | (go_at_call 22; refine (CY.out _).mono ?_; rintro e w' ⟨rfl, rfl⟩)
                        | (go_at_call 31; refine (l3Opens_any _ _).mono ?_; rintro e w' ⟨rfl, rfl⟩; rw [hob]))
                      have REL := Lib.hid (show ((nextR (matchN ks) (runsN ls) r').length ≠ 0 → ∃ i : Nat, Value.int .i64 (-1) = .int .i64 (i : Int) ∧ i < (runsN ls).length ∧ nextR (matchN ks) (runsN ls) r' = nthL (runsN ls) i ∧ ((ls.length : Nat) : Int) ≤ (gk' : Int) + lastOf (nextR (matchN ks) (runsN ls) r')) ∧ ((nextR (matchN ks) (runsN ls) r').length = 0 → Value.int .i64 (-1) = .int .i64 (-1) ∧ (isOp (nth ks (lastOf (P ++ r')).toNat) → nth (matchN ks) (lastOf (P ++ r')).toNat < 0)) by
                        refine ⟨fun h => absurd (by rw [NX.out]; rfl) h, fun _ => ⟨rfl, fun h => ?_⟩⟩
                        rw [LA.out, Int.toNat_natCast] at h ⊢
                        rw [← hqy.out] at h
                        rw [← hyy.out]
                        exact HOP.out h)
                      go_roundg gk'
                      case measure => omega
                      case rel => exact ⟨P ++ r', nextR (matchN ks) (runsN ls) r', _, y, EP, rfl, Lib.hid (fun _ => LA.out.symm), REL, K6, Lib.hid (by have := O6.out.more (Nat.le_refl _) (show w5.heap.size ≤ w6.heap.size by omega); rw [hm.out] at this; exact this), BI, by omega⟩
                  · have NX := Lib.hid (show nextR (matchN ks) (runsN ls) r' = [] by
                      rw [NXE.out, if_pos]
                      rcases MK.out with h | ⟨_, _, h⟩ | ⟨h, _⟩
                      · omega
                      · exact h
                      · exact absurd h hopq)
                    have HOP := Lib.hid (fun (h : isOp qy) => (show yy < 0 from absurd h hopq))
                    have hob : opB qy = false := decide_eq_false hopq
                    clear hopq
                    go_wp2_with (first
                      | (go_at_call 22; refine (CY.out _).mono ?_; rintro e w' ⟨rfl, rfl⟩)
                      | (go_at_call 31; refine (l3Opens_any _ _).mono ?_; rintro e w' ⟨rfl, rfl⟩; rw [hob]))
                    have REL := Lib.hid (show ((nextR (matchN ks) (runsN ls) r').length ≠ 0 → ∃ i : Nat, Value.int .i64 (-1) = .int .i64 (i : Int) ∧ i < (runsN ls).length ∧ nextR (matchN ks) (runsN ls) r' = nthL (runsN ls) i ∧ ((ls.length : Nat) : Int) ≤ (gk' : Int) + lastOf (nextR (matchN ks) (runsN ls) r')) ∧ ((nextR (matchN ks) (runsN ls) r').length = 0 → Value.int .i64 (-1) = .int .i64 (-1) ∧ (isOp (nth ks (lastOf (P ++ r')).toNat) → nth (matchN ks) (lastOf (P ++ r')).toNat < 0)) by
                      refine ⟨fun h => absurd (by rw [NX.out]; rfl) h, fun _ => ⟨rfl, fun h => ?_⟩⟩
                      rw [LA.out, Int.toNat_natCast] at h ⊢
                      rw [← hqy.out] at h
                      rw [← hyy.out]
                      exact HOP.out h)
                    go_roundg gk'
                    case measure => omega
                    case rel => exact ⟨P ++ r', nextR (matchN ks) (runsN ls) r', _, y, EP, rfl, Lib.hid (fun _ => LA.out.symm), REL, K6, Lib.hid (by have := O6.out.more (Nat.le_refl _) (show w5.heap.size ≤ w6.heap.size by omega); rw [hm.out] at this; exact this), BI, by omega⟩
      · have ES := Lib.hid (show sqsOf ks (matchN ks) ls (runsN ls) b ((runsN ls).take (k + 1)) = Q by rw [SS.out, if_neg hbg, List.append_nil])
        obtain ⟨h22, h0y⟩ := BK2.out.2 (by simpa using hbg)
        have q22 : (qx == 22) = true := by simp [h22]
        have hd : decide (0 ≤ yx) = true := decide_eq_true h0y
        clear hbg SS h22 h0y
        go_wp2_with (go_at_call 22; refine (CX.out _).mono ?_; rintro e w' ⟨rfl, rfl⟩)
        go_roundw
        case rel => exact ⟨k + 1, us, by omega, by go_num, by rw [ES.out]; exact hq, hbr⟩
        case measure => first | omega | (simp [intOf]; omega)
    · have ET : Hid (sqsOf ks (matchN ks) ls (runsN ls) b ((runsN ls).take k) = seqsN ks b) := Lib.hid (by
        rw [List.take_of_length_le (by omega), HLS.out, ← hks.out]; rfl)
      rw [ET.out] at hq ⊢
      have QF := Lib.hid (hq.out.more (show w.heap.size ≤ w2.heap.size by omega) (Nat.le_refl _))
      have BF := Lib.hid (B3.out.trans (hbr.out.mono (by omega)))
      clear hq
      go_wp2
      go_ret
      exact ⟨⟨_, us, rfl, by rw [← hks.out]; exact QF.out⟩, BF.out⟩
end Go.Proofs.YtcfnhjpmihngdaaGreat
