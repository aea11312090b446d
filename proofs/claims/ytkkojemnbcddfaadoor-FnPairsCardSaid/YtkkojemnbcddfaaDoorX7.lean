/- Chapter 7: the model's neutrals and sides. -/
import Derived.Test.YtkkojemnbcddfaaDoorX6
import Derived.Test.YtkkojemnbcddfaaDoorG0
namespace Go.Proofs.YtkkojemnbcddfaaDoor
open Go.RowKit

/-- laid up to k, and behind it as it was -/
def mixN (N l : List Int) (k : Nat) : List Int := (List.range l.length).map fun t => if t < k then nth N t else nth l t
theorem mixN_len (N l : List Int) (k : Nat) : (mixN N l k).length = l.length := by simp [mixN]
theorem mixN_nth (N l : List Int) (k t : Nat) (h : t < l.length) : nth (mixN N l k) t = if t < k then nth N t else nth l t := by
  have : (mixN N l k)[t]? = some (if t < k then nth N t else nth l t) := by simp [mixN, List.getElem?_map, List.getElem?_range h]
  show ((mixN N l k)[t]?).getD _ = _
  rw [this]; rfl
theorem mixN_zero (N l : List Int) : mixN N l 0 = l :=
  nth_eq_of _ _ (mixN_len _ _ _) fun j hj => by rw [mixN_len] at hj; rw [mixN_nth _ _ _ _ hj, if_neg (by omega)]
theorem mixN_end (N l : List Int) (h : N.length = l.length) : mixN N l l.length = N :=
  nth_eq_of _ _ (by rw [mixN_len, h]) fun j hj => by rw [mixN_len] at hj; rw [mixN_nth _ _ _ _ hj, if_pos hj]
theorem mixN_set (N l : List Int) (k : Nat) (h : k < l.length) (z : Int) (hz : nth N k = z) : mixN N l (k + 1) = (mixN N l k).set k z :=
  nth_eq_of _ _ (by rw [List.length_set, mixN_len, mixN_len]) fun j hj => by
    rw [mixN_len] at hj
    rw [mixN_nth _ _ _ _ hj, nth_set _ _ _ _ (by rw [mixN_len]; exact h), mixN_nth _ _ _ _ hj]
    by_cases e : k = j
    · subst e; rw [if_pos rfl, if_pos (by omega), hz]
    · rw [if_neg e]
      by_cases e2 : j < k
      · rw [if_pos e2, if_pos (by omega)]
      · rw [if_neg e2, if_neg (by omega)]
theorem mixN_same (N l : List Int) (k : Nat) (h : k < l.length) (hz : nth N k = nth l k) : mixN N l (k + 1) = mixN N l k :=
  nth_eq_of _ _ (by rw [mixN_len, mixN_len]) fun j hj => by
    rw [mixN_len] at hj
    rw [mixN_nth _ _ _ _ hj, mixN_nth _ _ _ _ hj]
    by_cases e : k = j
    · subst e; rw [if_pos (by omega), if_neg (by omega), hz]
    · by_cases e2 : j < k
      · rw [if_pos e2, if_pos (by omega)]
      · rw [if_neg e2, if_neg (by omega)]
theorem neu_not (l : List Int) (way sos eos : Int) (k : Nat) (h : k < l.length) (hn : isNeu (nth l k) = false) : nth (neutralsN l way sos eos) k = nth l k := by
  rw [neutralsN_nth _ _ _ _ _ h]; unfold neuAt; rw [if_neg (by rw [hn]; simp)]
theorem near_at (l m : List Int) (i edge : Int) (hl : m.length = l.length) (h : ∀ t : Nat, i = (t : Int) → t < l.length → nth m t = nth l t) : nearS m i edge = nearS l i edge := by
  unfold nearS
  rw [hl]
  by_cases hi : 0 ≤ i ∧ i < (l.length : Int)
  · have e := h i.toNat (by omega) (by omega)
    rw [e]
  · rw [if_neg (fun x => hi ⟨x.1, x.2.1⟩), if_neg (fun x => hi ⟨x.1, x.2.1⟩)]
theorem near_left (l : List Int) (way sos eos : Int) (k : Nat) (edge : Int) (hk : k ≤ l.length) (h : k = 0 ∨ isNeu (nth l (k - 1)) = false) : nearS (mixN (neutralsN l way sos eos) l k) ((k : Int) - 1) edge = nearS l ((k : Int) - 1) edge :=
  near_at _ _ _ _ (mixN_len _ _ _) fun t ht hl => by
    rw [mixN_nth _ _ _ _ hl, if_pos (by omega)]
    rcases h with h | h
    · omega
    · rw [show k - 1 = t by omega] at h
      exact neu_not _ _ _ _ _ hl h
theorem near_right (N l : List Int) (k e : Nat) (edge : Int) (h : k ≤ e) : nearS (mixN N l k) (e : Int) edge = nearS l (e : Int) edge :=
  near_at _ _ _ _ (mixN_len _ _ _) fun t ht hl => by rw [mixN_nth _ _ _ _ hl, if_neg (by omega)]
set_option maxRecDepth 100000 in
set_option maxHeartbeats 8000000 in
theorem l7Neutrals_any (v : Value) (l : List Int) (lev sos eos : Int) (w : World) (B : Nat) (h : Sees w B .i64 v l) (hB : B ≤ w.heap.size) (hl : l.length ≤ 600) :
    Calls Tryd.prog 50 #[v, .int .i64 lev, .int .i64 sos, .int .i64 eos] w fun e w' => (∃ u, e = .returned u ∧ Own w' w.heap.size w'.heap.size 2 .i64 u (neutralsN l (sideL lev) sos eos)) ∧ Below w.heap.size w w' := by
  obtain ⟨i0, hi, hz0, hz1, hz2⟩ := info_parts info_int64
  have HS := Lib.hid h
  obtain ⟨A0, c0, rfl, _⟩ := h
  obtain ⟨n, hn⟩ : ∃ n, Hid (n = l.length) := ⟨_, Lib.hid rfl⟩
  obtain ⟨N, hN⟩ : ∃ N, Hid (N = neutralsN l (sideL lev) sos eos) := ⟨_, Lib.hid rfl⟩
  have NE := Lib.hid (show mixN N l n = N by rw [hn.out]; exact mixN_end _ _ (by rw [hN.out, neutralsN_len]))
  have NLEN := Lib.hid (show N.length = n by rw [hN.out, neutralsN_len, hn.out])
  have NOT := Lib.hid (fun (k : Nat) (hk : k < n) (h : isNeu (nth l k) = false) => show mixN N l (k + 1) = mixN N l k from mixN_same _ _ _ (by rw [← hn.out]; exact hk) (by rw [hN.out]; exact neu_not _ _ _ _ _ (by rw [← hn.out]; exact hk) h))
  have LEFT := Lib.hid (fun (k : Nat) (hk : k ≤ n) (h : k = 0 ∨ isNeu (nth l (k - 1)) = false) => show nearS (mixN N l k) ((k : Int) - 1) sos = nearS l ((k : Int) - 1) sos by rw [hN.out]; exact near_left l _ _ _ k sos (by rw [← hn.out]; exact hk) h)
  have RUN := Lib.hid (fun (a e : Nat) h1 h2 h3 h4 h5 => neu_run l (sideL lev) sos eos a e h1 h2 h3 h4 h5)
  rw [← hN.out, ← hn.out] at RUN
  have RUN : Hid (∀ (a e : Nat), a < e → e ≤ n → (∀ j, a ≤ j → j < e → isNeu (nth l j) = true) → (e = n ∨ isNeu (nth l e) = false) → (a = 0 ∨ isNeu (nth l (a - 1)) = false) → ∀ k, a ≤ k → k < e → nth N k = neuV l (sideL lev) sos eos a e) := RUN
  have ML := Lib.hid (fun k => (mixN_len N l k).trans hn.out.symm)
  have MN := Lib.hid (fun k t (h : t < n) => mixN_nth N l k t (by rw [← hn.out]; exact h))
  rw [← hN.out]
  rw [← hn.out] at hl
  go_enter Tryd.func50, Tryd.ntmps50
  go_wp2_with fail
  refine (l1Ints_own _ l w B HS.out hB (by rw [← hn.out]; omega)).mono ?_
  rintro e w1 ⟨⟨u, rfl, o1⟩, b1⟩
  obtain ⟨A, c, rfl⟩ := o1.form
  have R1 : Hid (Row7 w1 w.heap.size A n c (mixN N l 0)) := Lib.hid (by rw [mixN_zero, hn.out]; exact o1.1)
  rw [← hn.out]
  have B1 := Lib.hid b1
  have s1 := b1.size
  clear o1 b1
  go_wp2
  go_loopw [10] (fun i wr => ∃ k : Nat, k ≤ n ∧ i = .int .i64 k ∧ Hid (k = 0 ∨ isNeu (nth l (k - 1)) = false ∨ k = n ∨ isNeu (nth l k) = false) ∧ Hid (Row7 wr w.heap.size A n c (mixN N l k)) ∧ Hid (Below w.heap.size w wr)) (fun i _ => n - (intOf i).toNat)
  case atStart => exact ⟨0, by omega, rfl, Lib.hid (.inl rfl), R1, B1⟩
  case round =>
    clear R1 B1
    obtain ⟨k, hk, rfl, hbd, hw, hbr⟩ := hrel
    generalize wr = wo at *
    clear wr
    by_cases hlt : k < n
    · obtain ⟨ga, ca, eA, hga⟩ := own_addr hw.out (by omega)
      have eA1 := (sl_eq eA).1
      subst eA1
      clear eA
      have hck := own_cell hw.out k hlt
      rw [MN.out k k hlt, if_neg (by omega)] at hck
      have kn : (k : Int) < (n : Int) := by omega
      cases hq : isNeu (nth l k) with
      | false =>
        have R2 := Lib.hid (show Row7 wo w.heap.size (some ⟨ga, 0, none⟩) n c (mixN N l (k + 1)) by rw [NOT.out k hlt hq]; exact hw.out)
        have BD := Lib.hid (show k + 1 = 0 ∨ isNeu (nth l (k + 1 - 1)) = false ∨ k + 1 = n ∨ isNeu (nth l (k + 1)) = false from .inr (.inl (by rw [Nat.add_sub_cancel]; exact hq)))
        have Q := Lib.hid hq
        obtain ⟨x, hx⟩ : ∃ x, Hid (x = nth l k) := ⟨_, Lib.hid rfl⟩
        rw [← hx.out] at hck Q
        clear hq hw hbd
        go_wp2_with (go_at_call 80; refine (l7Neutral_any _ _).mono ?_; rintro e w' ⟨rfl, rfl⟩; rw [Q.out])
        go_roundw
        case rel => exact ⟨k + 1, by omega, by go_num, BD, R2, hbr⟩
        case measure => first | omega | (simp [intOf]; omega)
      | true =>
        have Q := Lib.hid hq
        have BL := Lib.hid (show k = 0 ∨ isNeu (nth l (k - 1)) = false by
          rcases hbd.out with h | h | h | h
          · exact .inl h
          · exact .inr h
          · omega
          · rw [hq] at h; cases h)
        have Q0 := Lib.hid hq
        obtain ⟨x, hx⟩ : ∃ x, Hid (x = nth l k) := ⟨_, Lib.hid rfl⟩
        rw [← hx.out] at hck Q
        clear hq hbd
        go_wp2_with (go_at_call 80; refine (l7Neutral_any _ _).mono ?_; rintro e w' ⟨rfl, rfl⟩; rw [Q.out])
        clear hck
        go_loop [11] (fun i => ∃ j : Nat, k ≤ j ∧ j ≤ n ∧ i = .int .i64 j ∧ Hid (∀ t, k ≤ t → t < j → isNeu (nth l t) = true)) (fun i => n - (intOf i).toNat)
        case atStart => exact ⟨k, by omega, by omega, rfl, Lib.hid (fun t a b => by omega)⟩
        case round =>
          obtain ⟨j, hj1, hj2, rfl, hall⟩ := hrel
          by_cases hgo : j < n ∧ isNeu (nth l j) = true
          · obtain ⟨hjn, hjt⟩ := hgo
            have hcj := own_cell hw.out j hjn
            rw [MN.out k j hjn, if_neg (by omega)] at hcj
            have ALL := Lib.hid (show ∀ t, k ≤ t → t < j + 1 → isNeu (nth l t) = true from fun t a b => by
              by_cases e : t = j
              · rw [e]; exact hjt
              · exact hall.out t a (by omega))
            have QJ := Lib.hid hjt
            have jn : (j : Int) < (n : Int) := by omega
            obtain ⟨y, hy⟩ : ∃ y, Hid (y = nth l j) := ⟨_, Lib.hid rfl⟩
            rw [← hy.out] at hcj QJ
            clear hjt
            go_wp2_with (go_at_call 80; refine (l7Neutral_any _ _).mono ?_; rintro e w' ⟨rfl, rfl⟩; rw [QJ.out])
            go_round
            case rel => exact ⟨j + 1, by omega, by omega, by go_num, ALL⟩
            case measure => first | omega | (simp [intOf]; omega)
          · have KJ : k < j := by
              refine Nat.lt_of_le_of_ne hj1 fun e => hgo ⟨by omega, ?_⟩
              rw [← e]; exact Q0.out
            have EN := Lib.hid (show j = n ∨ isNeu (nth l j) = false by
              by_cases e : j = n
              · exact .inl e
              · right
                cases hv : isNeu (nth l j)
                · rfl
                · exact absurd ⟨by omega, hv⟩ hgo)
            have RV := Lib.hid (RUN.out k j KJ hj2 hall.out EN.out BL.out)
            have BDJ := Lib.hid (show j = 0 ∨ isNeu (nth l (j - 1)) = false ∨ j = n ∨ isNeu (nth l j) = false from by rcases EN.out with h | h <;> simp [h])
            have CL := l7Near_any (some ⟨ga, 0, none⟩) (mixN N l k) c ((k : Int) - 1) sos wo _ (Rd.of hw.out) (by rw [ML.out]; exact hl)
            have CR := l7Near_any (some ⟨ga, 0, none⟩) (mixN N l k) c (j : Int) eos wo _ (Rd.of hw.out) (by rw [ML.out]; exact hl)
            rw [ML.out, LEFT.out k hk BL.out] at CL
            rw [ML.out, near_right N l k j eos hj1] at CR
            obtain ⟨sL, hsL⟩ : ∃ s, Hid (s = nearS l ((k : Int) - 1) sos) := ⟨_, Lib.hid rfl⟩
            obtain ⟨sR, hsR⟩ : ∃ s, Hid (s = nearS l (j : Int) eos) := ⟨_, Lib.hid rfl⟩
            rw [← hsL.out] at CL
            rw [← hsR.out] at CR
            have CLh := Lib.hid CL
            have CRh := Lib.hid CR
            clear CL CR
            obtain ⟨way, hway⟩ : ∃ s, Hid (s = sideL lev) := ⟨_, Lib.hid rfl⟩
            rw [← hway.out] at RV
            have hjc : j < n ∨ j = n := by omega
            clear hgo hall hj2
            rcases hjc with hjn | hjn
            · have hcj := own_cell hw.out j hjn
              rw [MN.out k j hjn, if_neg (by omega)] at hcj
              have QJ := Lib.hid (show isNeu (nth l j) = false by
                rcases EN.out with e | e
                · omega
                · exact e)
              have jn : (j : Int) < (n : Int) := by omega
              obtain ⟨y, hy⟩ : ∃ y, Hid (y = nth l j) := ⟨_, Lib.hid rfl⟩
              rw [← hy.out] at hcj QJ
              go_wp2_with (go_at_call 80; refine (l7Neutral_any _ _).mono ?_; rintro e w' ⟨rfl, rfl⟩; rw [QJ.out])
              refine CLh.out.mono ?_
              rintro e w' ⟨rfl, rfl⟩
              go_wp2_with fail
              refine CRh.out.mono ?_
              rintro e w' ⟨rfl, rfl⟩
              by_cases hss : sL = sR
              · have f1 : (sL != sR) = false := by simp [hss]
                have V := Lib.hid (fun t (a : k ≤ t) (b : t < j) => show nth N t = sL by rw [RV.out t a b]; unfold neuV; rw [← hsL.out, ← hsR.out, if_pos hss])
                clear hss
                go_wp2
                go_loopw [13] (fun i wr => ∃ m : Nat, k ≤ m ∧ m ≤ j ∧ i = .int .i64 m ∧ Hid (Row7 wr w.heap.size (some ⟨ga, 0, none⟩) n c (mixN N l m)) ∧ Hid (Below w.heap.size w wr)) (fun i _ => j - (intOf i).toNat)
                case atStart => exact ⟨k, by omega, by omega, rfl, hw, hbr⟩
                case round =>
                  obtain ⟨m, hm1, hm2, rfl, hw2, hb2⟩ := hrel
                  have hsz : w.heap.size ≤ wr.heap.size := hb2.out.size
                  by_cases hmj : m < j
                  · have E := Lib.hid (mixN_set N l m (by rw [← hn.out]; omega) _ (V.out m hm1 hmj))
                    have mn : m < n := by omega
                    go_wp2_with (refine wpList_put rfl _ _ _ rfl i0 hi hz1 m (.int .i64 sL) rfl rfl rfl hw2.out mn ?_; intro w6 o6 g6)
                    have R6 := Lib.hid (show Row7 w6 w.heap.size (some ⟨ga, 0, none⟩) n c (mixN N l (m + 1)) by rw [E.out]; exact own_set o6)
                    have B6 := Lib.hid (hb2.out.grown g6 hsz (fun k hk => (hw2.out.lt k hk).1))
                    clear o6 g6
                    go_roundw
                    case rel => exact ⟨m + 1, by omega, by omega, by go_num, R6, B6⟩
                    case measure => first | omega | (simp [intOf]; omega)
                  · obtain rfl : m = j := by omega
                    go_wp2
                    go_roundw
                    case rel => exact ⟨m, by omega, by first | go_num | (congr 1; omega), BDJ, hw2, hb2⟩
                    case measure => first | omega | (simp [intOf]; omega)
              · have f1 : (sL != sR) = true := by simpa using hss
                have V := Lib.hid (fun t (a : k ≤ t) (b : t < j) => show nth N t = way by rw [RV.out t a b]; unfold neuV; rw [← hsL.out, ← hsR.out, if_neg hss])
                clear hss
                go_wp2_with (go_at_call 78; refine (specSideOf7_any _ _).mono ?_; rintro e w' ⟨rfl, rfl⟩; rw [← hway.out])
                go_loopw [13] (fun i wr => ∃ m : Nat, k ≤ m ∧ m ≤ j ∧ i = .int .i64 m ∧ Hid (Row7 wr w.heap.size (some ⟨ga, 0, none⟩) n c (mixN N l m)) ∧ Hid (Below w.heap.size w wr)) (fun i _ => j - (intOf i).toNat)
                case atStart => exact ⟨k, by omega, by omega, rfl, hw, hbr⟩
                case round =>
                  obtain ⟨m, hm1, hm2, rfl, hw2, hb2⟩ := hrel
                  have hsz : w.heap.size ≤ wr.heap.size := hb2.out.size
                  by_cases hmj : m < j
                  · have E := Lib.hid (mixN_set N l m (by rw [← hn.out]; omega) _ (V.out m hm1 hmj))
                    have mn : m < n := by omega
                    go_wp2_with (refine wpList_put rfl _ _ _ rfl i0 hi hz1 m (.int .i64 way) rfl rfl rfl hw2.out mn ?_; intro w6 o6 g6)
                    have R6 := Lib.hid (show Row7 w6 w.heap.size (some ⟨ga, 0, none⟩) n c (mixN N l (m + 1)) by rw [E.out]; exact own_set o6)
                    have B6 := Lib.hid (hb2.out.grown g6 hsz (fun k hk => (hw2.out.lt k hk).1))
                    clear o6 g6
                    go_roundw
                    case rel => exact ⟨m + 1, by omega, by omega, by go_num, R6, B6⟩
                    case measure => first | omega | (simp [intOf]; omega)
                  · obtain rfl : m = j := by omega
                    go_wp2
                    go_roundw
                    case rel => exact ⟨m, by omega, by first | go_num | (congr 1; omega), BDJ, hw2, hb2⟩
                    case measure => first | omega | (simp [intOf]; omega)
            · obtain rfl : n = j := hjn.symm
              clear hjn
              go_wp2_with fail
              refine CLh.out.mono ?_
              rintro e w' ⟨rfl, rfl⟩
              go_wp2_with fail
              refine CRh.out.mono ?_
              rintro e w' ⟨rfl, rfl⟩
              by_cases hss : sL = sR
              · have f1 : (sL != sR) = false := by simp [hss]
                have V := Lib.hid (fun t (a : k ≤ t) (b : t < n) => show nth N t = sL by rw [RV.out t a b]; unfold neuV; rw [← hsL.out, ← hsR.out, if_pos hss])
                clear hss
                go_wp2
                go_loopw [13] (fun i wr => ∃ m : Nat, k ≤ m ∧ m ≤ n ∧ i = .int .i64 m ∧ Hid (Row7 wr w.heap.size (some ⟨ga, 0, none⟩) n c (mixN N l m)) ∧ Hid (Below w.heap.size w wr)) (fun i _ => n - (intOf i).toNat)
                case atStart => exact ⟨k, by omega, by omega, rfl, hw, hbr⟩
                case round =>
                  obtain ⟨m, hm1, hm2, rfl, hw2, hb2⟩ := hrel
                  have hsz : w.heap.size ≤ wr.heap.size := hb2.out.size
                  by_cases hmj : m < n
                  · have E := Lib.hid (mixN_set N l m (by rw [← hn.out]; omega) _ (V.out m hm1 hmj))
                    have mn : m < n := by omega
                    go_wp2_with (refine wpList_put rfl _ _ _ rfl i0 hi hz1 m (.int .i64 sL) rfl rfl rfl hw2.out mn ?_; intro w6 o6 g6)
                    have R6 := Lib.hid (show Row7 w6 w.heap.size (some ⟨ga, 0, none⟩) n c (mixN N l (m + 1)) by rw [E.out]; exact own_set o6)
                    have B6 := Lib.hid (hb2.out.grown g6 hsz (fun k hk => (hw2.out.lt k hk).1))
                    clear o6 g6
                    go_roundw
                    case rel => exact ⟨m + 1, by omega, by omega, by go_num, R6, B6⟩
                    case measure => first | omega | (simp [intOf]; omega)
                  · obtain rfl : m = n := by omega
                    go_wp2
                    go_roundw
                    case rel => exact ⟨m, by omega, by first | go_num | (congr 1; omega), Lib.hid (.inr (.inr (.inl rfl))), hw2, hb2⟩
                    case measure => first | omega | (simp [intOf]; omega)
              · have f1 : (sL != sR) = true := by simpa using hss
                have V := Lib.hid (fun t (a : k ≤ t) (b : t < n) => show nth N t = way by rw [RV.out t a b]; unfold neuV; rw [← hsL.out, ← hsR.out, if_neg hss])
                clear hss
                go_wp2_with (go_at_call 78; refine (specSideOf7_any _ _).mono ?_; rintro e w' ⟨rfl, rfl⟩; rw [← hway.out])
                go_loopw [13] (fun i wr => ∃ m : Nat, k ≤ m ∧ m ≤ n ∧ i = .int .i64 m ∧ Hid (Row7 wr w.heap.size (some ⟨ga, 0, none⟩) n c (mixN N l m)) ∧ Hid (Below w.heap.size w wr)) (fun i _ => n - (intOf i).toNat)
                case atStart => exact ⟨k, by omega, by omega, rfl, hw, hbr⟩
                case round =>
                  obtain ⟨m, hm1, hm2, rfl, hw2, hb2⟩ := hrel
                  have hsz : w.heap.size ≤ wr.heap.size := hb2.out.size
                  by_cases hmj : m < n
                  · have E := Lib.hid (mixN_set N l m (by rw [← hn.out]; omega) _ (V.out m hm1 hmj))
                    have mn : m < n := by omega
                    go_wp2_with (refine wpList_put rfl _ _ _ rfl i0 hi hz1 m (.int .i64 way) rfl rfl rfl hw2.out mn ?_; intro w6 o6 g6)
                    have R6 := Lib.hid (show Row7 w6 w.heap.size (some ⟨ga, 0, none⟩) n c (mixN N l (m + 1)) by rw [E.out]; exact own_set o6)
                    have B6 := Lib.hid (hb2.out.grown g6 hsz (fun k hk => (hw2.out.lt k hk).1))
                    clear o6 g6
                    go_roundw
                    case rel => exact ⟨m + 1, by omega, by omega, by go_num, R6, B6⟩
                    case measure => first | omega | (simp [intOf]; omega)
                  · obtain rfl : m = n := by omega
                    go_wp2
                    go_roundw
                    case rel => exact ⟨m, by omega, by first | go_num | (congr 1; omega), Lib.hid (.inr (.inr (.inl rfl))), hw2, hb2⟩
                    case measure => first | omega | (simp [intOf]; omega)
    · obtain rfl : k = n := by omega
      have OW : Hid (Own wo w.heap.size wo.heap.size 2 .i64 (.slice A k c) N) := Lib.hid ⟨by rw [NLEN.out, ← NE.out]; exact hw.out, fun b hb => (hw.out.lt b hb).2⟩
      clear hw
      go_wp2
      go_ret
      exact ⟨⟨_, rfl, OW.out⟩, hbr.out⟩
end Go.Proofs.YtkkojemnbcddfaaDoor
