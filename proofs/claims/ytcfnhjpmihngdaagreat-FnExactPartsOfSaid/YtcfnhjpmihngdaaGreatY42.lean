/- Chapter 6: a step of the program's, over all of a list. -/
import Derived.Test.YtcfnhjpmihngdaaGreatY11
import Derived.Test.YtcfnhjpmihngdaaGreatY06
import Derived.Deep.RegionHeld3
namespace Go.Proofs.YtcfnhjpmihngdaaGreat
open Go.RowKit Go.Shelf
attribute [local go_sem] Oper.semAt_some

/-- what a walk holds, its classes in a row of the call's own that lies ahead of it -/
structure WkO (w : World) (T t : TypeId) (lo g : Nat) (A : Option Addr) (n c : Nat) (cs : List Int) (s : Int) : Prop where
  blk : Blk w g T #[.slice A n c, .int .i64 s]
  row : w.ownsRow lo t 1 (.slice A n c) n (nums .i64 cs)
  hi : ∀ b, (Value.slice A n c).ownBlock = some b → b < g
  len : cs.length = n
theorem WkO.below {w w' : World} {T t : TypeId} {lo g : Nat} {A : Option Addr} {n c : Nat} {cs : List Int} {s : Int} (h : WkO w T t lo g A n c cs s) (hb : Below w.heap.size w w') : WkO w' T t lo g A n c cs s :=
  ⟨h.blk.below hb h.blk.lt, own_below h.row hb, h.hi, h.len⟩
theorem WkO.reads {w : World} {T t : TypeId} {lo g : Nat} {A : Option Addr} {n c : Nat} {cs : List Int} {s : Int} (h : WkO w T t lo g A n c cs s) : WkR w T (g + 1) g A c cs s := by
  refine ⟨by rw [h.len]; exact h.blk, by omega, ?_⟩
  intro k u hu
  obtain ⟨b, off, rfl, hb, hc⟩ := Rd.of h.row k u hu
  exact ⟨b, off, rfl, by have := h.hi b rfl; omega, hc⟩
theorem Rd.blk {w : World} {go : Nat} {t : TypeId} {os : List Int} (h : Blk w go t (nums .i64 os).toArray) : Rd w (go + 1) (some ⟨go, 0, none⟩) (nums .i64 os) := by
  intro k u hu
  exact ⟨go, 0, rfl, by omega, by rw [Nat.zero_add]; exact h.cell k (by simpa using hu)⟩
theorem set1_far (w : World) {g h i j : Nat} (hg : h ≠ g) (a : Value) : (w.setCell ⟨g, j, none⟩ a).cell? ⟨h, i, none⟩ = w.cell? ⟨h, i, none⟩ := by
  have e : (w.setCell ⟨g, j, none⟩ a).heap[h]? = w.heap[h]? := heap_setCell_other _ _ _ _ hg
  unfold World.cell?
  simp only [e]
theorem out_grown {lo g : Nat} {w w' : World} {v : Value} (h : w.grownBy w' v.ownBlock) (h1 : ∀ b, v.ownBlock = some b → lo ≤ b ∧ b < g) : Out lo (g + 1) w w' :=
  Out.of_grown h fun b hb => by have := h1 b hb; omega

set_option maxRecDepth 100000 in
set_option maxHeartbeats 2000000 in
theorem takeMark_any {w : World} {lo g go : Nat} {A : Option Addr} {n c : Nat} {cs : List Int} {s : Int} (os : List Int) (f : List Int → Nat → Int) (h : WkO w 132 2 lo g A n c cs s) (hk : Blk w go 2 (nums .i64 os).toArray) (hgo : g < go) (hl : n ≤ 600) (hol : os.length ≤ 600)
    (hm : ∀ (w' : World) (cs' : List Int) (k : Nat), WkR w' 132 (g + 1) g A c cs' s → g + 1 ≤ w'.heap.size → cs'.length = n → k < cs'.length → Calls Tryz.prog 112 #[.pointer (some ⟨g, 0, none⟩), .int .i64 k] w' fun e w'' => e = .returned (.int .i64 (f cs' k)) ∧ Below w'.heap.size w' w'') :
    Calls Tryz.prog 111 #[.pointer (some ⟨g, 0, none⟩), .agg #[.slice (some ⟨go, 0, none⟩) os.length os.length, .func (.func 112) #[.pointer (some ⟨g, 0, none⟩)] #[]]] w fun e w' => (e = .returned (.tuple #[]) ∧ WkO w' 132 2 lo g A n c (doStep os f cs) s) ∧ Out lo (g + 1) w w' := by
  have hgl := h.blk.lt
  have b0 := (Below.refl w.heap.size w).alloc (Nat.le_refl _) (.cells #[.slice (some ⟨go, 0, none⟩) os.length os.length, .func (.func 112) #[.pointer (some ⟨g, 0, none⟩)] #[]] 145)
  have H0 : Hid (WkO (w.alloc (.cells #[.slice (some ⟨go, 0, none⟩) os.length os.length, .func (.func 112) #[.pointer (some ⟨g, 0, none⟩)] #[]] 145)) 132 2 lo g A n c (stepN os f cs 0) s) := Lib.hid (h.below b0)
  have K0 := Lib.hid (hk.below b0 hk.lt)
  have X0 := Lib.hid (Blk.new w 145 #[.slice (some ⟨go, 0, none⟩) os.length os.length, .func (.func 112) #[.pointer (some ⟨g, 0, none⟩)] #[]])
  have O0 := Lib.hid (Out.of_below (lo := lo) (hi := g + 1) b0)
  have LEN := Lib.hid h.len
  have DS := Lib.hid (show doStep os f cs = stepN os f cs n by unfold doStep; rw [h.len])
  have ec := H0.out.blk.cell 0 (u := .slice A n c) rfl
  have gne : g ≠ w.heap.size := by omega
  have HM := Lib.hid hm
  clear h hk b0 hm
  go_enter Tryz.func111, Tryz.ntmps111
  go_wp2
  go_loopw [11] (fun i wr => ∃ k : Nat, k ≤ n ∧ i = .int .i64 k ∧ Hid (WkO wr 132 2 lo g A n c (stepN os f cs k) s) ∧ Hid (Blk wr go 2 (nums .i64 os).toArray) ∧ Hid (Blk wr w.heap.size 145 #[.slice (some ⟨go, 0, none⟩) os.length os.length, .func (.func 112) #[.pointer (some ⟨g, 0, none⟩)] #[]]) ∧ Hid (Out lo (g + 1) w wr)) (fun i _ => n - (intOf i).toNat)
  case atStart => exact ⟨0, by omega, rfl, H0, K0, X0, O0⟩
  case round =>
    clear H0 K0 X0 O0 ec
    obtain ⟨k, hk, rfl, hw, hkb, hx, ho⟩ := hrel
    by_cases hlt : k < n
    · obtain ⟨ga, ca, eA, hga⟩ := own_addr hw.out.row (by omega)
      injection eA with eA e2 e3
      subst eA
      subst e3
      clear e2
      have gag := hw.out.hi ga rfl
      have hc0 := own_cell hw.out.row k hlt
      have hf0 := hw.out.row.frozenAt k
      have x0 := hx.out.cell 0 (u := .slice (some ⟨go, 0, none⟩) os.length os.length) rfl
      have x1 := hx.out.cell 1 (u := .func (.func 112) #[.pointer (some ⟨g, 0, none⟩)] #[]) rfl
      have ec := hw.out.blk.cell 0 (u := .slice (some ⟨ga, 0, none⟩) n c) rfl
      have RO := Lib.hid (Rd.blk hkb.out)
      have LS := Lib.hid ((stepN_len os f cs k).trans LEN.out)
      obtain ⟨S, hS⟩ : ∃ S, Hid (S = stepN os f cs k) := ⟨_, Lib.hid rfl⟩
      have HIT := Lib.hid (stepN_hit os f cs k)
      have MISS := Lib.hid (stepN_miss os f cs k)
      rw [← hS.out] at hc0 HIT MISS hw LS
      obtain ⟨q, hq⟩ : ∃ q, Hid (q = nth S k) := ⟨_, Lib.hid rfl⟩
      rw [← hq.out] at hc0 HIT MISS
      have gaw : ga ≠ w.heap.size := by omega
      have gag2 : g ≠ ga := by omega
      have hxg : w.heap.size ≠ ga := by omega
      go_wp2_with fail
      refine (containsC_any _ os os.length q wr _ RO.out hol).mono ?_
      rintro e w' ⟨rfl, rfl⟩
      cases hc : hasC os q with
      | false =>
        have W2 := Lib.hid (show WkO wr 132 2 lo g (some ⟨ga, 0, none⟩) n c (stepN os f cs (k + 1)) s by rw [MISS.out hc]; exact hw.out)
        clear hc
        go_wp2
        go_roundw
        case rel => exact ⟨k + 1, by omega, by go_num, W2, hkb, hx, ho⟩
        case measure => first | omega | (simp [intOf]; omega)
      | true =>
        have ES := Lib.hid (HIT.out hc)
        have R0 := hw.out.reads
        have CM := Lib.hid (HM.out wr.drew S k ⟨R0.blk, R0.lt, R0.rd⟩ (by have := hw.out.blk.lt; show g + 1 ≤ wr.heap.size; omega) LS.out (by rw [LS.out]; exact hlt))
        obtain ⟨v, hv⟩ : ∃ v, Hid (v = f S k) := ⟨_, Lib.hid rfl⟩
        rw [← hv.out] at CM ES
        clear hc R0
        go_wp2_with fail
        go_region_held3 (fun w' => w'.cell? ⟨g, 0, none⟩ = some (.slice (some ⟨ga, 0, none⟩) n c) ∧ w'.cell? ⟨w.heap.size, 1, none⟩ = some (.func (.func 112) #[.pointer (some ⟨g, 0, none⟩)] #[])) (first | exact ⟨ec, x1⟩ | exact ⟨ec7, x17⟩ | exact ⟨(set1_far w7 gag2 _).trans ec7, (set1_far w7 hxg _).trans x17⟩) (first
          | (go_at_call 112; refine CM.out.mono ?_; rintro e w7 ⟨rfl, b7⟩
             have qb7 : Below wr.heap.size wr w7 := ⟨b7.os, b7.tape, b7.output, b7.size, b7.block⟩
             have H7 := Lib.hid (hw.out.below qb7)
             have K7 := Lib.hid (hkb.out.below qb7 hkb.out.lt)
             have X7 := Lib.hid (hx.out.below qb7 hx.out.lt)
             have O7 := Lib.hid (ho.out.trans (Out.of_below (lo := lo) (hi := g + 1) qb7))
             have ec7 := H7.out.blk.cell 0 (u := .slice (some ⟨ga, 0, none⟩) n c) rfl
             have x17 := X7.out.cell 1 (u := .func (.func 112) #[.pointer (some ⟨g, 0, none⟩)] #[]) rfl
             have hc7 := own_cell H7.out.row k hlt
             have hf7 := H7.out.row.frozenAt k
             clear b7 qb7))
        have st := H7.out.row.stored k (.int .i64 v)
        have OT := Lib.hid (O7.out.trans (out_grown (v := .slice (some ⟨ga, 0, none⟩) n c) st.2 (fun b hb => ⟨(H7.out.row.lt b hb).1, hw.out.hi b hb⟩)))
        have W2 := Lib.hid (show WkO (w7.setCell ⟨ga, k, none⟩ (.int .i64 v)) 132 2 lo g (some ⟨ga, 0, none⟩) n c (stepN os f cs (k + 1)) s by
          rw [ES.out]
          exact ⟨(heap_setCell_other _ _ _ _ gag2).trans H7.out.blk, own_set st.1, hw.out.hi, by rw [List.length_set]; exact LS.out⟩)
        have K2 := Lib.hid (show Blk (w7.setCell ⟨ga, k, none⟩ (.int .i64 v)) go _ _ from (heap_setCell_other _ _ _ _ (show go ≠ ga by omega)).trans K7.out)
        have X2 := Lib.hid (show Blk (w7.setCell ⟨ga, k, none⟩ (.int .i64 v)) w.heap.size _ _ from (heap_setCell_other _ _ _ _ hxg).trans X7.out)
        clear st
        go_wp2
        go_roundw
        case rel => exact ⟨k + 1, by omega, by go_num, W2, K2, X2, OT⟩
        case measure => first | omega | (simp [intOf]; omega)
    · obtain rfl : k = n := by omega
      have W2 := Lib.hid (show WkO wr 132 2 lo g A k c (doStep os f cs) s by rw [DS.out]; exact hw.out)
      go_wp2
      go_end0
      exact ⟨⟨rfl, W2.out⟩, ho.out⟩
set_option maxRecDepth 100000 in
set_option maxHeartbeats 2000000 in
theorem takeNumber_any {w : World} {lo g go : Nat} {A : Option Addr} {n c : Nat} {cs : List Int} {s : Int} (os : List Int) (f : List Int → Nat → Int) (h : WkO w 132 2 lo g A n c cs s) (hk : Blk w go 2 (nums .i64 os).toArray) (hgo : g < go) (hl : n ≤ 600) (hol : os.length ≤ 600)
    (hm : ∀ (w' : World) (cs' : List Int) (k : Nat), WkR w' 132 (g + 1) g A c cs' s → g + 1 ≤ w'.heap.size → cs'.length = n → k < cs'.length → Calls Tryz.prog 113 #[.pointer (some ⟨g, 0, none⟩), .int .i64 k] w' fun e w'' => e = .returned (.int .i64 (f cs' k)) ∧ Below w'.heap.size w' w'') :
    Calls Tryz.prog 111 #[.pointer (some ⟨g, 0, none⟩), .agg #[.slice (some ⟨go, 0, none⟩) os.length os.length, .func (.func 113) #[.pointer (some ⟨g, 0, none⟩)] #[]]] w fun e w' => (e = .returned (.tuple #[]) ∧ WkO w' 132 2 lo g A n c (doStep os f cs) s) ∧ Out lo (g + 1) w w' := by
  have hgl := h.blk.lt
  have b0 := (Below.refl w.heap.size w).alloc (Nat.le_refl _) (.cells #[.slice (some ⟨go, 0, none⟩) os.length os.length, .func (.func 113) #[.pointer (some ⟨g, 0, none⟩)] #[]] 145)
  have H0 : Hid (WkO (w.alloc (.cells #[.slice (some ⟨go, 0, none⟩) os.length os.length, .func (.func 113) #[.pointer (some ⟨g, 0, none⟩)] #[]] 145)) 132 2 lo g A n c (stepN os f cs 0) s) := Lib.hid (h.below b0)
  have K0 := Lib.hid (hk.below b0 hk.lt)
  have X0 := Lib.hid (Blk.new w 145 #[.slice (some ⟨go, 0, none⟩) os.length os.length, .func (.func 113) #[.pointer (some ⟨g, 0, none⟩)] #[]])
  have O0 := Lib.hid (Out.of_below (lo := lo) (hi := g + 1) b0)
  have LEN := Lib.hid h.len
  have DS := Lib.hid (show doStep os f cs = stepN os f cs n by unfold doStep; rw [h.len])
  have ec := H0.out.blk.cell 0 (u := .slice A n c) rfl
  have gne : g ≠ w.heap.size := by omega
  have HM := Lib.hid hm
  clear h hk b0 hm
  go_enter Tryz.func111, Tryz.ntmps111
  go_wp2
  go_loopw [11] (fun i wr => ∃ k : Nat, k ≤ n ∧ i = .int .i64 k ∧ Hid (WkO wr 132 2 lo g A n c (stepN os f cs k) s) ∧ Hid (Blk wr go 2 (nums .i64 os).toArray) ∧ Hid (Blk wr w.heap.size 145 #[.slice (some ⟨go, 0, none⟩) os.length os.length, .func (.func 113) #[.pointer (some ⟨g, 0, none⟩)] #[]]) ∧ Hid (Out lo (g + 1) w wr)) (fun i _ => n - (intOf i).toNat)
  case atStart => exact ⟨0, by omega, rfl, H0, K0, X0, O0⟩
  case round =>
    clear H0 K0 X0 O0 ec
    obtain ⟨k, hk, rfl, hw, hkb, hx, ho⟩ := hrel
    by_cases hlt : k < n
    · obtain ⟨ga, ca, eA, hga⟩ := own_addr hw.out.row (by omega)
      injection eA with eA e2 e3
      subst eA
      subst e3
      clear e2
      have gag := hw.out.hi ga rfl
      have hc0 := own_cell hw.out.row k hlt
      have hf0 := hw.out.row.frozenAt k
      have x0 := hx.out.cell 0 (u := .slice (some ⟨go, 0, none⟩) os.length os.length) rfl
      have x1 := hx.out.cell 1 (u := .func (.func 113) #[.pointer (some ⟨g, 0, none⟩)] #[]) rfl
      have ec := hw.out.blk.cell 0 (u := .slice (some ⟨ga, 0, none⟩) n c) rfl
      have RO := Lib.hid (Rd.blk hkb.out)
      have LS := Lib.hid ((stepN_len os f cs k).trans LEN.out)
      obtain ⟨S, hS⟩ : ∃ S, Hid (S = stepN os f cs k) := ⟨_, Lib.hid rfl⟩
      have HIT := Lib.hid (stepN_hit os f cs k)
      have MISS := Lib.hid (stepN_miss os f cs k)
      rw [← hS.out] at hc0 HIT MISS hw LS
      obtain ⟨q, hq⟩ : ∃ q, Hid (q = nth S k) := ⟨_, Lib.hid rfl⟩
      rw [← hq.out] at hc0 HIT MISS
      have gaw : ga ≠ w.heap.size := by omega
      have gag2 : g ≠ ga := by omega
      have hxg : w.heap.size ≠ ga := by omega
      go_wp2_with fail
      refine (containsC_any _ os os.length q wr _ RO.out hol).mono ?_
      rintro e w' ⟨rfl, rfl⟩
      cases hc : hasC os q with
      | false =>
        have W2 := Lib.hid (show WkO wr 132 2 lo g (some ⟨ga, 0, none⟩) n c (stepN os f cs (k + 1)) s by rw [MISS.out hc]; exact hw.out)
        clear hc
        go_wp2
        go_roundw
        case rel => exact ⟨k + 1, by omega, by go_num, W2, hkb, hx, ho⟩
        case measure => first | omega | (simp [intOf]; omega)
      | true =>
        have ES := Lib.hid (HIT.out hc)
        have R0 := hw.out.reads
        have CM := Lib.hid (HM.out wr.drew S k ⟨R0.blk, R0.lt, R0.rd⟩ (by have := hw.out.blk.lt; show g + 1 ≤ wr.heap.size; omega) LS.out (by rw [LS.out]; exact hlt))
        obtain ⟨v, hv⟩ : ∃ v, Hid (v = f S k) := ⟨_, Lib.hid rfl⟩
        rw [← hv.out] at CM ES
        clear hc R0
        go_wp2_with fail
        go_region_held3 (fun w' => w'.cell? ⟨g, 0, none⟩ = some (.slice (some ⟨ga, 0, none⟩) n c) ∧ w'.cell? ⟨w.heap.size, 1, none⟩ = some (.func (.func 113) #[.pointer (some ⟨g, 0, none⟩)] #[])) (first | exact ⟨ec, x1⟩ | exact ⟨ec7, x17⟩ | exact ⟨(set1_far w7 gag2 _).trans ec7, (set1_far w7 hxg _).trans x17⟩) (first
          | (go_at_call 113; refine CM.out.mono ?_; rintro e w7 ⟨rfl, b7⟩
             have qb7 : Below wr.heap.size wr w7 := ⟨b7.os, b7.tape, b7.output, b7.size, b7.block⟩
             have H7 := Lib.hid (hw.out.below qb7)
             have K7 := Lib.hid (hkb.out.below qb7 hkb.out.lt)
             have X7 := Lib.hid (hx.out.below qb7 hx.out.lt)
             have O7 := Lib.hid (ho.out.trans (Out.of_below (lo := lo) (hi := g + 1) qb7))
             have ec7 := H7.out.blk.cell 0 (u := .slice (some ⟨ga, 0, none⟩) n c) rfl
             have x17 := X7.out.cell 1 (u := .func (.func 113) #[.pointer (some ⟨g, 0, none⟩)] #[]) rfl
             have hc7 := own_cell H7.out.row k hlt
             have hf7 := H7.out.row.frozenAt k
             clear b7 qb7))
        have st := H7.out.row.stored k (.int .i64 v)
        have OT := Lib.hid (O7.out.trans (out_grown (v := .slice (some ⟨ga, 0, none⟩) n c) st.2 (fun b hb => ⟨(H7.out.row.lt b hb).1, hw.out.hi b hb⟩)))
        have W2 := Lib.hid (show WkO (w7.setCell ⟨ga, k, none⟩ (.int .i64 v)) 132 2 lo g (some ⟨ga, 0, none⟩) n c (stepN os f cs (k + 1)) s by
          rw [ES.out]
          exact ⟨(heap_setCell_other _ _ _ _ gag2).trans H7.out.blk, own_set st.1, hw.out.hi, by rw [List.length_set]; exact LS.out⟩)
        have K2 := Lib.hid (show Blk (w7.setCell ⟨ga, k, none⟩ (.int .i64 v)) go _ _ from (heap_setCell_other _ _ _ _ (show go ≠ ga by omega)).trans K7.out)
        have X2 := Lib.hid (show Blk (w7.setCell ⟨ga, k, none⟩ (.int .i64 v)) w.heap.size _ _ from (heap_setCell_other _ _ _ _ hxg).trans X7.out)
        clear st
        go_wp2
        go_roundw
        case rel => exact ⟨k + 1, by omega, by go_num, W2, K2, X2, OT⟩
        case measure => first | omega | (simp [intOf]; omega)
    · obtain rfl : k = n := by omega
      have W2 := Lib.hid (show WkO wr 132 2 lo g A k c (doStep os f cs) s by rw [DS.out]; exact hw.out)
      go_wp2
      go_end0
      exact ⟨⟨rfl, W2.out⟩, ho.out⟩
set_option maxRecDepth 100000 in
set_option maxHeartbeats 2000000 in
theorem takeLetter_any {w : World} {lo g go : Nat} {A : Option Addr} {n c : Nat} {cs : List Int} {s : Int} (os : List Int) (f : List Int → Nat → Int) (h : WkO w 132 2 lo g A n c cs s) (hk : Blk w go 2 (nums .i64 os).toArray) (hgo : g < go) (hl : n ≤ 600) (hol : os.length ≤ 600)
    (hm : ∀ (w' : World) (cs' : List Int) (k : Nat), WkR w' 132 (g + 1) g A c cs' s → g + 1 ≤ w'.heap.size → cs'.length = n → k < cs'.length → Calls Tryz.prog 114 #[.pointer (some ⟨g, 0, none⟩), .int .i64 k] w' fun e w'' => e = .returned (.int .i64 (f cs' k)) ∧ Below w'.heap.size w' w'') :
    Calls Tryz.prog 111 #[.pointer (some ⟨g, 0, none⟩), .agg #[.slice (some ⟨go, 0, none⟩) os.length os.length, .func (.func 114) #[.pointer (some ⟨g, 0, none⟩)] #[]]] w fun e w' => (e = .returned (.tuple #[]) ∧ WkO w' 132 2 lo g A n c (doStep os f cs) s) ∧ Out lo (g + 1) w w' := by
  have hgl := h.blk.lt
  have b0 := (Below.refl w.heap.size w).alloc (Nat.le_refl _) (.cells #[.slice (some ⟨go, 0, none⟩) os.length os.length, .func (.func 114) #[.pointer (some ⟨g, 0, none⟩)] #[]] 145)
  have H0 : Hid (WkO (w.alloc (.cells #[.slice (some ⟨go, 0, none⟩) os.length os.length, .func (.func 114) #[.pointer (some ⟨g, 0, none⟩)] #[]] 145)) 132 2 lo g A n c (stepN os f cs 0) s) := Lib.hid (h.below b0)
  have K0 := Lib.hid (hk.below b0 hk.lt)
  have X0 := Lib.hid (Blk.new w 145 #[.slice (some ⟨go, 0, none⟩) os.length os.length, .func (.func 114) #[.pointer (some ⟨g, 0, none⟩)] #[]])
  have O0 := Lib.hid (Out.of_below (lo := lo) (hi := g + 1) b0)
  have LEN := Lib.hid h.len
  have DS := Lib.hid (show doStep os f cs = stepN os f cs n by unfold doStep; rw [h.len])
  have ec := H0.out.blk.cell 0 (u := .slice A n c) rfl
  have gne : g ≠ w.heap.size := by omega
  have HM := Lib.hid hm
  clear h hk b0 hm
  go_enter Tryz.func111, Tryz.ntmps111
  go_wp2
  go_loopw [11] (fun i wr => ∃ k : Nat, k ≤ n ∧ i = .int .i64 k ∧ Hid (WkO wr 132 2 lo g A n c (stepN os f cs k) s) ∧ Hid (Blk wr go 2 (nums .i64 os).toArray) ∧ Hid (Blk wr w.heap.size 145 #[.slice (some ⟨go, 0, none⟩) os.length os.length, .func (.func 114) #[.pointer (some ⟨g, 0, none⟩)] #[]]) ∧ Hid (Out lo (g + 1) w wr)) (fun i _ => n - (intOf i).toNat)
  case atStart => exact ⟨0, by omega, rfl, H0, K0, X0, O0⟩
  case round =>
    clear H0 K0 X0 O0 ec
    obtain ⟨k, hk, rfl, hw, hkb, hx, ho⟩ := hrel
    by_cases hlt : k < n
    · obtain ⟨ga, ca, eA, hga⟩ := own_addr hw.out.row (by omega)
      injection eA with eA e2 e3
      subst eA
      subst e3
      clear e2
      have gag := hw.out.hi ga rfl
      have hc0 := own_cell hw.out.row k hlt
      have hf0 := hw.out.row.frozenAt k
      have x0 := hx.out.cell 0 (u := .slice (some ⟨go, 0, none⟩) os.length os.length) rfl
      have x1 := hx.out.cell 1 (u := .func (.func 114) #[.pointer (some ⟨g, 0, none⟩)] #[]) rfl
      have ec := hw.out.blk.cell 0 (u := .slice (some ⟨ga, 0, none⟩) n c) rfl
      have RO := Lib.hid (Rd.blk hkb.out)
      have LS := Lib.hid ((stepN_len os f cs k).trans LEN.out)
      obtain ⟨S, hS⟩ : ∃ S, Hid (S = stepN os f cs k) := ⟨_, Lib.hid rfl⟩
      have HIT := Lib.hid (stepN_hit os f cs k)
      have MISS := Lib.hid (stepN_miss os f cs k)
      rw [← hS.out] at hc0 HIT MISS hw LS
      obtain ⟨q, hq⟩ : ∃ q, Hid (q = nth S k) := ⟨_, Lib.hid rfl⟩
      rw [← hq.out] at hc0 HIT MISS
      have gaw : ga ≠ w.heap.size := by omega
      have gag2 : g ≠ ga := by omega
      have hxg : w.heap.size ≠ ga := by omega
      go_wp2_with fail
      refine (containsC_any _ os os.length q wr _ RO.out hol).mono ?_
      rintro e w' ⟨rfl, rfl⟩
      cases hc : hasC os q with
      | false =>
        have W2 := Lib.hid (show WkO wr 132 2 lo g (some ⟨ga, 0, none⟩) n c (stepN os f cs (k + 1)) s by rw [MISS.out hc]; exact hw.out)
        clear hc
        go_wp2
        go_roundw
        case rel => exact ⟨k + 1, by omega, by go_num, W2, hkb, hx, ho⟩
        case measure => first | omega | (simp [intOf]; omega)
      | true =>
        have ES := Lib.hid (HIT.out hc)
        have R0 := hw.out.reads
        have CM := Lib.hid (HM.out wr.drew S k ⟨R0.blk, R0.lt, R0.rd⟩ (by have := hw.out.blk.lt; show g + 1 ≤ wr.heap.size; omega) LS.out (by rw [LS.out]; exact hlt))
        obtain ⟨v, hv⟩ : ∃ v, Hid (v = f S k) := ⟨_, Lib.hid rfl⟩
        rw [← hv.out] at CM ES
        clear hc R0
        go_wp2_with fail
        go_region_held3 (fun w' => w'.cell? ⟨g, 0, none⟩ = some (.slice (some ⟨ga, 0, none⟩) n c) ∧ w'.cell? ⟨w.heap.size, 1, none⟩ = some (.func (.func 114) #[.pointer (some ⟨g, 0, none⟩)] #[])) (first | exact ⟨ec, x1⟩ | exact ⟨ec7, x17⟩ | exact ⟨(set1_far w7 gag2 _).trans ec7, (set1_far w7 hxg _).trans x17⟩) (first
          | (go_at_call 114; refine CM.out.mono ?_; rintro e w7 ⟨rfl, b7⟩
             have qb7 : Below wr.heap.size wr w7 := ⟨b7.os, b7.tape, b7.output, b7.size, b7.block⟩
             have H7 := Lib.hid (hw.out.below qb7)
             have K7 := Lib.hid (hkb.out.below qb7 hkb.out.lt)
             have X7 := Lib.hid (hx.out.below qb7 hx.out.lt)
             have O7 := Lib.hid (ho.out.trans (Out.of_below (lo := lo) (hi := g + 1) qb7))
             have ec7 := H7.out.blk.cell 0 (u := .slice (some ⟨ga, 0, none⟩) n c) rfl
             have x17 := X7.out.cell 1 (u := .func (.func 114) #[.pointer (some ⟨g, 0, none⟩)] #[]) rfl
             have hc7 := own_cell H7.out.row k hlt
             have hf7 := H7.out.row.frozenAt k
             clear b7 qb7))
        have st := H7.out.row.stored k (.int .i64 v)
        have OT := Lib.hid (O7.out.trans (out_grown (v := .slice (some ⟨ga, 0, none⟩) n c) st.2 (fun b hb => ⟨(H7.out.row.lt b hb).1, hw.out.hi b hb⟩)))
        have W2 := Lib.hid (show WkO (w7.setCell ⟨ga, k, none⟩ (.int .i64 v)) 132 2 lo g (some ⟨ga, 0, none⟩) n c (stepN os f cs (k + 1)) s by
          rw [ES.out]
          exact ⟨(heap_setCell_other _ _ _ _ gag2).trans H7.out.blk, own_set st.1, hw.out.hi, by rw [List.length_set]; exact LS.out⟩)
        have K2 := Lib.hid (show Blk (w7.setCell ⟨ga, k, none⟩ (.int .i64 v)) go _ _ from (heap_setCell_other _ _ _ _ (show go ≠ ga by omega)).trans K7.out)
        have X2 := Lib.hid (show Blk (w7.setCell ⟨ga, k, none⟩ (.int .i64 v)) w.heap.size _ _ from (heap_setCell_other _ _ _ _ hxg).trans X7.out)
        clear st
        go_wp2
        go_roundw
        case rel => exact ⟨k + 1, by omega, by go_num, W2, K2, X2, OT⟩
        case measure => first | omega | (simp [intOf]; omega)
    · obtain rfl : k = n := by omega
      have W2 := Lib.hid (show WkO wr 132 2 lo g A k c (doStep os f cs) s by rw [DS.out]; exact hw.out)
      go_wp2
      go_end0
      exact ⟨⟨rfl, W2.out⟩, ho.out⟩
set_option maxRecDepth 100000 in
set_option maxHeartbeats 2000000 in
theorem takeSeparator_any {w : World} {lo g go : Nat} {A : Option Addr} {n c : Nat} {cs : List Int} {s : Int} (os : List Int) (f : List Int → Nat → Int) (h : WkO w 132 2 lo g A n c cs s) (hk : Blk w go 2 (nums .i64 os).toArray) (hgo : g < go) (hl : n ≤ 600) (hol : os.length ≤ 600)
    (hm : ∀ (w' : World) (cs' : List Int) (k : Nat), WkR w' 132 (g + 1) g A c cs' s → g + 1 ≤ w'.heap.size → cs'.length = n → k < cs'.length → Calls Tryz.prog 115 #[.pointer (some ⟨g, 0, none⟩), .int .i64 k] w' fun e w'' => e = .returned (.int .i64 (f cs' k)) ∧ Below w'.heap.size w' w'') :
    Calls Tryz.prog 111 #[.pointer (some ⟨g, 0, none⟩), .agg #[.slice (some ⟨go, 0, none⟩) os.length os.length, .func (.func 115) #[.pointer (some ⟨g, 0, none⟩)] #[]]] w fun e w' => (e = .returned (.tuple #[]) ∧ WkO w' 132 2 lo g A n c (doStep os f cs) s) ∧ Out lo (g + 1) w w' := by
  have hgl := h.blk.lt
  have b0 := (Below.refl w.heap.size w).alloc (Nat.le_refl _) (.cells #[.slice (some ⟨go, 0, none⟩) os.length os.length, .func (.func 115) #[.pointer (some ⟨g, 0, none⟩)] #[]] 145)
  have H0 : Hid (WkO (w.alloc (.cells #[.slice (some ⟨go, 0, none⟩) os.length os.length, .func (.func 115) #[.pointer (some ⟨g, 0, none⟩)] #[]] 145)) 132 2 lo g A n c (stepN os f cs 0) s) := Lib.hid (h.below b0)
  have K0 := Lib.hid (hk.below b0 hk.lt)
  have X0 := Lib.hid (Blk.new w 145 #[.slice (some ⟨go, 0, none⟩) os.length os.length, .func (.func 115) #[.pointer (some ⟨g, 0, none⟩)] #[]])
  have O0 := Lib.hid (Out.of_below (lo := lo) (hi := g + 1) b0)
  have LEN := Lib.hid h.len
  have DS := Lib.hid (show doStep os f cs = stepN os f cs n by unfold doStep; rw [h.len])
  have ec := H0.out.blk.cell 0 (u := .slice A n c) rfl
  have gne : g ≠ w.heap.size := by omega
  have HM := Lib.hid hm
  clear h hk b0 hm
  go_enter Tryz.func111, Tryz.ntmps111
  go_wp2
  go_loopw [11] (fun i wr => ∃ k : Nat, k ≤ n ∧ i = .int .i64 k ∧ Hid (WkO wr 132 2 lo g A n c (stepN os f cs k) s) ∧ Hid (Blk wr go 2 (nums .i64 os).toArray) ∧ Hid (Blk wr w.heap.size 145 #[.slice (some ⟨go, 0, none⟩) os.length os.length, .func (.func 115) #[.pointer (some ⟨g, 0, none⟩)] #[]]) ∧ Hid (Out lo (g + 1) w wr)) (fun i _ => n - (intOf i).toNat)
  case atStart => exact ⟨0, by omega, rfl, H0, K0, X0, O0⟩
  case round =>
    clear H0 K0 X0 O0 ec
    obtain ⟨k, hk, rfl, hw, hkb, hx, ho⟩ := hrel
    by_cases hlt : k < n
    · obtain ⟨ga, ca, eA, hga⟩ := own_addr hw.out.row (by omega)
      injection eA with eA e2 e3
      subst eA
      subst e3
      clear e2
      have gag := hw.out.hi ga rfl
      have hc0 := own_cell hw.out.row k hlt
      have hf0 := hw.out.row.frozenAt k
      have x0 := hx.out.cell 0 (u := .slice (some ⟨go, 0, none⟩) os.length os.length) rfl
      have x1 := hx.out.cell 1 (u := .func (.func 115) #[.pointer (some ⟨g, 0, none⟩)] #[]) rfl
      have ec := hw.out.blk.cell 0 (u := .slice (some ⟨ga, 0, none⟩) n c) rfl
      have RO := Lib.hid (Rd.blk hkb.out)
      have LS := Lib.hid ((stepN_len os f cs k).trans LEN.out)
      obtain ⟨S, hS⟩ : ∃ S, Hid (S = stepN os f cs k) := ⟨_, Lib.hid rfl⟩
      have HIT := Lib.hid (stepN_hit os f cs k)
      have MISS := Lib.hid (stepN_miss os f cs k)
      rw [← hS.out] at hc0 HIT MISS hw LS
      obtain ⟨q, hq⟩ : ∃ q, Hid (q = nth S k) := ⟨_, Lib.hid rfl⟩
      rw [← hq.out] at hc0 HIT MISS
      have gaw : ga ≠ w.heap.size := by omega
      have gag2 : g ≠ ga := by omega
      have hxg : w.heap.size ≠ ga := by omega
      go_wp2_with fail
      refine (containsC_any _ os os.length q wr _ RO.out hol).mono ?_
      rintro e w' ⟨rfl, rfl⟩
      cases hc : hasC os q with
      | false =>
        have W2 := Lib.hid (show WkO wr 132 2 lo g (some ⟨ga, 0, none⟩) n c (stepN os f cs (k + 1)) s by rw [MISS.out hc]; exact hw.out)
        clear hc
        go_wp2
        go_roundw
        case rel => exact ⟨k + 1, by omega, by go_num, W2, hkb, hx, ho⟩
        case measure => first | omega | (simp [intOf]; omega)
      | true =>
        have ES := Lib.hid (HIT.out hc)
        have R0 := hw.out.reads
        have CM := Lib.hid (HM.out wr.drew S k ⟨R0.blk, R0.lt, R0.rd⟩ (by have := hw.out.blk.lt; show g + 1 ≤ wr.heap.size; omega) LS.out (by rw [LS.out]; exact hlt))
        obtain ⟨v, hv⟩ : ∃ v, Hid (v = f S k) := ⟨_, Lib.hid rfl⟩
        rw [← hv.out] at CM ES
        clear hc R0
        go_wp2_with fail
        go_region_held3 (fun w' => w'.cell? ⟨g, 0, none⟩ = some (.slice (some ⟨ga, 0, none⟩) n c) ∧ w'.cell? ⟨w.heap.size, 1, none⟩ = some (.func (.func 115) #[.pointer (some ⟨g, 0, none⟩)] #[])) (first | exact ⟨ec, x1⟩ | exact ⟨ec7, x17⟩ | exact ⟨(set1_far w7 gag2 _).trans ec7, (set1_far w7 hxg _).trans x17⟩) (first
          | (go_at_call 115; refine CM.out.mono ?_; rintro e w7 ⟨rfl, b7⟩
             have qb7 : Below wr.heap.size wr w7 := ⟨b7.os, b7.tape, b7.output, b7.size, b7.block⟩
             have H7 := Lib.hid (hw.out.below qb7)
             have K7 := Lib.hid (hkb.out.below qb7 hkb.out.lt)
             have X7 := Lib.hid (hx.out.below qb7 hx.out.lt)
             have O7 := Lib.hid (ho.out.trans (Out.of_below (lo := lo) (hi := g + 1) qb7))
             have ec7 := H7.out.blk.cell 0 (u := .slice (some ⟨ga, 0, none⟩) n c) rfl
             have x17 := X7.out.cell 1 (u := .func (.func 115) #[.pointer (some ⟨g, 0, none⟩)] #[]) rfl
             have hc7 := own_cell H7.out.row k hlt
             have hf7 := H7.out.row.frozenAt k
             clear b7 qb7))
        have st := H7.out.row.stored k (.int .i64 v)
        have OT := Lib.hid (O7.out.trans (out_grown (v := .slice (some ⟨ga, 0, none⟩) n c) st.2 (fun b hb => ⟨(H7.out.row.lt b hb).1, hw.out.hi b hb⟩)))
        have W2 := Lib.hid (show WkO (w7.setCell ⟨ga, k, none⟩ (.int .i64 v)) 132 2 lo g (some ⟨ga, 0, none⟩) n c (stepN os f cs (k + 1)) s by
          rw [ES.out]
          exact ⟨(heap_setCell_other _ _ _ _ gag2).trans H7.out.blk, own_set st.1, hw.out.hi, by rw [List.length_set]; exact LS.out⟩)
        have K2 := Lib.hid (show Blk (w7.setCell ⟨ga, k, none⟩ (.int .i64 v)) go _ _ from (heap_setCell_other _ _ _ _ (show go ≠ ga by omega)).trans K7.out)
        have X2 := Lib.hid (show Blk (w7.setCell ⟨ga, k, none⟩ (.int .i64 v)) w.heap.size _ _ from (heap_setCell_other _ _ _ _ hxg).trans X7.out)
        clear st
        go_wp2
        go_roundw
        case rel => exact ⟨k + 1, by omega, by go_num, W2, K2, X2, OT⟩
        case measure => first | omega | (simp [intOf]; omega)
    · obtain rfl : k = n := by omega
      have W2 := Lib.hid (show WkO wr 132 2 lo g A k c (doStep os f cs) s by rw [DS.out]; exact hw.out)
      go_wp2
      go_end0
      exact ⟨⟨rfl, W2.out⟩, ho.out⟩
set_option maxRecDepth 100000 in
set_option maxHeartbeats 2000000 in
theorem takeTerminator_any {w : World} {lo g go : Nat} {A : Option Addr} {n c : Nat} {cs : List Int} {s : Int} (os : List Int) (f : List Int → Nat → Int) (h : WkO w 132 2 lo g A n c cs s) (hk : Blk w go 2 (nums .i64 os).toArray) (hgo : g < go) (hl : n ≤ 600) (hol : os.length ≤ 600)
    (hm : ∀ (w' : World) (cs' : List Int) (k : Nat), WkR w' 132 (g + 1) g A c cs' s → g + 1 ≤ w'.heap.size → cs'.length = n → k < cs'.length → Calls Tryz.prog 116 #[.pointer (some ⟨g, 0, none⟩), .int .i64 k] w' fun e w'' => e = .returned (.int .i64 (f cs' k)) ∧ Below w'.heap.size w' w'') :
    Calls Tryz.prog 111 #[.pointer (some ⟨g, 0, none⟩), .agg #[.slice (some ⟨go, 0, none⟩) os.length os.length, .func (.func 116) #[.pointer (some ⟨g, 0, none⟩)] #[]]] w fun e w' => (e = .returned (.tuple #[]) ∧ WkO w' 132 2 lo g A n c (doStep os f cs) s) ∧ Out lo (g + 1) w w' := by
  have hgl := h.blk.lt
  have b0 := (Below.refl w.heap.size w).alloc (Nat.le_refl _) (.cells #[.slice (some ⟨go, 0, none⟩) os.length os.length, .func (.func 116) #[.pointer (some ⟨g, 0, none⟩)] #[]] 145)
  have H0 : Hid (WkO (w.alloc (.cells #[.slice (some ⟨go, 0, none⟩) os.length os.length, .func (.func 116) #[.pointer (some ⟨g, 0, none⟩)] #[]] 145)) 132 2 lo g A n c (stepN os f cs 0) s) := Lib.hid (h.below b0)
  have K0 := Lib.hid (hk.below b0 hk.lt)
  have X0 := Lib.hid (Blk.new w 145 #[.slice (some ⟨go, 0, none⟩) os.length os.length, .func (.func 116) #[.pointer (some ⟨g, 0, none⟩)] #[]])
  have O0 := Lib.hid (Out.of_below (lo := lo) (hi := g + 1) b0)
  have LEN := Lib.hid h.len
  have DS := Lib.hid (show doStep os f cs = stepN os f cs n by unfold doStep; rw [h.len])
  have ec := H0.out.blk.cell 0 (u := .slice A n c) rfl
  have gne : g ≠ w.heap.size := by omega
  have HM := Lib.hid hm
  clear h hk b0 hm
  go_enter Tryz.func111, Tryz.ntmps111
  go_wp2
  go_loopw [11] (fun i wr => ∃ k : Nat, k ≤ n ∧ i = .int .i64 k ∧ Hid (WkO wr 132 2 lo g A n c (stepN os f cs k) s) ∧ Hid (Blk wr go 2 (nums .i64 os).toArray) ∧ Hid (Blk wr w.heap.size 145 #[.slice (some ⟨go, 0, none⟩) os.length os.length, .func (.func 116) #[.pointer (some ⟨g, 0, none⟩)] #[]]) ∧ Hid (Out lo (g + 1) w wr)) (fun i _ => n - (intOf i).toNat)
  case atStart => exact ⟨0, by omega, rfl, H0, K0, X0, O0⟩
  case round =>
    clear H0 K0 X0 O0 ec
    obtain ⟨k, hk, rfl, hw, hkb, hx, ho⟩ := hrel
    by_cases hlt : k < n
    · obtain ⟨ga, ca, eA, hga⟩ := own_addr hw.out.row (by omega)
      injection eA with eA e2 e3
      subst eA
      subst e3
      clear e2
      have gag := hw.out.hi ga rfl
      have hc0 := own_cell hw.out.row k hlt
      have hf0 := hw.out.row.frozenAt k
      have x0 := hx.out.cell 0 (u := .slice (some ⟨go, 0, none⟩) os.length os.length) rfl
      have x1 := hx.out.cell 1 (u := .func (.func 116) #[.pointer (some ⟨g, 0, none⟩)] #[]) rfl
      have ec := hw.out.blk.cell 0 (u := .slice (some ⟨ga, 0, none⟩) n c) rfl
      have RO := Lib.hid (Rd.blk hkb.out)
      have LS := Lib.hid ((stepN_len os f cs k).trans LEN.out)
      obtain ⟨S, hS⟩ : ∃ S, Hid (S = stepN os f cs k) := ⟨_, Lib.hid rfl⟩
      have HIT := Lib.hid (stepN_hit os f cs k)
      have MISS := Lib.hid (stepN_miss os f cs k)
      rw [← hS.out] at hc0 HIT MISS hw LS
      obtain ⟨q, hq⟩ : ∃ q, Hid (q = nth S k) := ⟨_, Lib.hid rfl⟩
      rw [← hq.out] at hc0 HIT MISS
      have gaw : ga ≠ w.heap.size := by omega
      have gag2 : g ≠ ga := by omega
      have hxg : w.heap.size ≠ ga := by omega
      go_wp2_with fail
      refine (containsC_any _ os os.length q wr _ RO.out hol).mono ?_
      rintro e w' ⟨rfl, rfl⟩
      cases hc : hasC os q with
      | false =>
        have W2 := Lib.hid (show WkO wr 132 2 lo g (some ⟨ga, 0, none⟩) n c (stepN os f cs (k + 1)) s by rw [MISS.out hc]; exact hw.out)
        clear hc
        go_wp2
        go_roundw
        case rel => exact ⟨k + 1, by omega, by go_num, W2, hkb, hx, ho⟩
        case measure => first | omega | (simp [intOf]; omega)
      | true =>
        have ES := Lib.hid (HIT.out hc)
        have R0 := hw.out.reads
        have CM := Lib.hid (HM.out wr.drew S k ⟨R0.blk, R0.lt, R0.rd⟩ (by have := hw.out.blk.lt; show g + 1 ≤ wr.heap.size; omega) LS.out (by rw [LS.out]; exact hlt))
        obtain ⟨v, hv⟩ : ∃ v, Hid (v = f S k) := ⟨_, Lib.hid rfl⟩
        rw [← hv.out] at CM ES
        clear hc R0
        go_wp2_with fail
        go_region_held3 (fun w' => w'.cell? ⟨g, 0, none⟩ = some (.slice (some ⟨ga, 0, none⟩) n c) ∧ w'.cell? ⟨w.heap.size, 1, none⟩ = some (.func (.func 116) #[.pointer (some ⟨g, 0, none⟩)] #[])) (first | exact ⟨ec, x1⟩ | exact ⟨ec7, x17⟩ | exact ⟨(set1_far w7 gag2 _).trans ec7, (set1_far w7 hxg _).trans x17⟩) (first
          | (go_at_call 116; refine CM.out.mono ?_; rintro e w7 ⟨rfl, b7⟩
             have qb7 : Below wr.heap.size wr w7 := ⟨b7.os, b7.tape, b7.output, b7.size, b7.block⟩
             have H7 := Lib.hid (hw.out.below qb7)
             have K7 := Lib.hid (hkb.out.below qb7 hkb.out.lt)
             have X7 := Lib.hid (hx.out.below qb7 hx.out.lt)
             have O7 := Lib.hid (ho.out.trans (Out.of_below (lo := lo) (hi := g + 1) qb7))
             have ec7 := H7.out.blk.cell 0 (u := .slice (some ⟨ga, 0, none⟩) n c) rfl
             have x17 := X7.out.cell 1 (u := .func (.func 116) #[.pointer (some ⟨g, 0, none⟩)] #[]) rfl
             have hc7 := own_cell H7.out.row k hlt
             have hf7 := H7.out.row.frozenAt k
             clear b7 qb7))
        have st := H7.out.row.stored k (.int .i64 v)
        have OT := Lib.hid (O7.out.trans (out_grown (v := .slice (some ⟨ga, 0, none⟩) n c) st.2 (fun b hb => ⟨(H7.out.row.lt b hb).1, hw.out.hi b hb⟩)))
        have W2 := Lib.hid (show WkO (w7.setCell ⟨ga, k, none⟩ (.int .i64 v)) 132 2 lo g (some ⟨ga, 0, none⟩) n c (stepN os f cs (k + 1)) s by
          rw [ES.out]
          exact ⟨(heap_setCell_other _ _ _ _ gag2).trans H7.out.blk, own_set st.1, hw.out.hi, by rw [List.length_set]; exact LS.out⟩)
        have K2 := Lib.hid (show Blk (w7.setCell ⟨ga, k, none⟩ (.int .i64 v)) go _ _ from (heap_setCell_other _ _ _ _ (show go ≠ ga by omega)).trans K7.out)
        have X2 := Lib.hid (show Blk (w7.setCell ⟨ga, k, none⟩ (.int .i64 v)) w.heap.size _ _ from (heap_setCell_other _ _ _ _ hxg).trans X7.out)
        clear st
        go_wp2
        go_roundw
        case rel => exact ⟨k + 1, by omega, by go_num, W2, K2, X2, OT⟩
        case measure => first | omega | (simp [intOf]; omega)
    · obtain rfl : k = n := by omega
      have W2 := Lib.hid (show WkO wr 132 2 lo g A k c (doStep os f cs) s by rw [DS.out]; exact hw.out)
      go_wp2
      go_end0
      exact ⟨⟨rfl, W2.out⟩, ho.out⟩
set_option maxRecDepth 100000 in
set_option maxHeartbeats 2000000 in
theorem takeRest_any {w : World} {lo g go : Nat} {A : Option Addr} {n c : Nat} {cs : List Int} {s : Int} (os : List Int) (f : List Int → Nat → Int) (h : WkO w 132 2 lo g A n c cs s) (hk : Blk w go 2 (nums .i64 os).toArray) (hgo : g < go) (hl : n ≤ 600) (hol : os.length ≤ 600)
    (hm : ∀ (w' : World) (cs' : List Int) (k : Nat), WkR w' 132 (g + 1) g A c cs' s → g + 1 ≤ w'.heap.size → cs'.length = n → k < cs'.length → Calls Tryz.prog 117 #[.pointer (some ⟨g, 0, none⟩), .int .i64 k] w' fun e w'' => e = .returned (.int .i64 (f cs' k)) ∧ Below w'.heap.size w' w'') :
    Calls Tryz.prog 111 #[.pointer (some ⟨g, 0, none⟩), .agg #[.slice (some ⟨go, 0, none⟩) os.length os.length, .func (.func 117) #[.pointer (some ⟨g, 0, none⟩)] #[]]] w fun e w' => (e = .returned (.tuple #[]) ∧ WkO w' 132 2 lo g A n c (doStep os f cs) s) ∧ Out lo (g + 1) w w' := by
  have hgl := h.blk.lt
  have b0 := (Below.refl w.heap.size w).alloc (Nat.le_refl _) (.cells #[.slice (some ⟨go, 0, none⟩) os.length os.length, .func (.func 117) #[.pointer (some ⟨g, 0, none⟩)] #[]] 145)
  have H0 : Hid (WkO (w.alloc (.cells #[.slice (some ⟨go, 0, none⟩) os.length os.length, .func (.func 117) #[.pointer (some ⟨g, 0, none⟩)] #[]] 145)) 132 2 lo g A n c (stepN os f cs 0) s) := Lib.hid (h.below b0)
  have K0 := Lib.hid (hk.below b0 hk.lt)
  have X0 := Lib.hid (Blk.new w 145 #[.slice (some ⟨go, 0, none⟩) os.length os.length, .func (.func 117) #[.pointer (some ⟨g, 0, none⟩)] #[]])
  have O0 := Lib.hid (Out.of_below (lo := lo) (hi := g + 1) b0)
  have LEN := Lib.hid h.len
  have DS := Lib.hid (show doStep os f cs = stepN os f cs n by unfold doStep; rw [h.len])
  have ec := H0.out.blk.cell 0 (u := .slice A n c) rfl
  have gne : g ≠ w.heap.size := by omega
  have HM := Lib.hid hm
  clear h hk b0 hm
  go_enter Tryz.func111, Tryz.ntmps111
  go_wp2
  go_loopw [11] (fun i wr => ∃ k : Nat, k ≤ n ∧ i = .int .i64 k ∧ Hid (WkO wr 132 2 lo g A n c (stepN os f cs k) s) ∧ Hid (Blk wr go 2 (nums .i64 os).toArray) ∧ Hid (Blk wr w.heap.size 145 #[.slice (some ⟨go, 0, none⟩) os.length os.length, .func (.func 117) #[.pointer (some ⟨g, 0, none⟩)] #[]]) ∧ Hid (Out lo (g + 1) w wr)) (fun i _ => n - (intOf i).toNat)
  case atStart => exact ⟨0, by omega, rfl, H0, K0, X0, O0⟩
  case round =>
    clear H0 K0 X0 O0 ec
    obtain ⟨k, hk, rfl, hw, hkb, hx, ho⟩ := hrel
    by_cases hlt : k < n
    · obtain ⟨ga, ca, eA, hga⟩ := own_addr hw.out.row (by omega)
      injection eA with eA e2 e3
      subst eA
      subst e3
      clear e2
      have gag := hw.out.hi ga rfl
      have hc0 := own_cell hw.out.row k hlt
      have hf0 := hw.out.row.frozenAt k
      have x0 := hx.out.cell 0 (u := .slice (some ⟨go, 0, none⟩) os.length os.length) rfl
      have x1 := hx.out.cell 1 (u := .func (.func 117) #[.pointer (some ⟨g, 0, none⟩)] #[]) rfl
      have ec := hw.out.blk.cell 0 (u := .slice (some ⟨ga, 0, none⟩) n c) rfl
      have RO := Lib.hid (Rd.blk hkb.out)
      have LS := Lib.hid ((stepN_len os f cs k).trans LEN.out)
      obtain ⟨S, hS⟩ : ∃ S, Hid (S = stepN os f cs k) := ⟨_, Lib.hid rfl⟩
      have HIT := Lib.hid (stepN_hit os f cs k)
      have MISS := Lib.hid (stepN_miss os f cs k)
      rw [← hS.out] at hc0 HIT MISS hw LS
      obtain ⟨q, hq⟩ : ∃ q, Hid (q = nth S k) := ⟨_, Lib.hid rfl⟩
      rw [← hq.out] at hc0 HIT MISS
      have gaw : ga ≠ w.heap.size := by omega
      have gag2 : g ≠ ga := by omega
      have hxg : w.heap.size ≠ ga := by omega
      go_wp2_with fail
      refine (containsC_any _ os os.length q wr _ RO.out hol).mono ?_
      rintro e w' ⟨rfl, rfl⟩
      cases hc : hasC os q with
      | false =>
        have W2 := Lib.hid (show WkO wr 132 2 lo g (some ⟨ga, 0, none⟩) n c (stepN os f cs (k + 1)) s by rw [MISS.out hc]; exact hw.out)
        clear hc
        go_wp2
        go_roundw
        case rel => exact ⟨k + 1, by omega, by go_num, W2, hkb, hx, ho⟩
        case measure => first | omega | (simp [intOf]; omega)
      | true =>
        have ES := Lib.hid (HIT.out hc)
        have R0 := hw.out.reads
        have CM := Lib.hid (HM.out wr.drew S k ⟨R0.blk, R0.lt, R0.rd⟩ (by have := hw.out.blk.lt; show g + 1 ≤ wr.heap.size; omega) LS.out (by rw [LS.out]; exact hlt))
        obtain ⟨v, hv⟩ : ∃ v, Hid (v = f S k) := ⟨_, Lib.hid rfl⟩
        rw [← hv.out] at CM ES
        clear hc R0
        go_wp2_with fail
        go_region_held3 (fun w' => w'.cell? ⟨g, 0, none⟩ = some (.slice (some ⟨ga, 0, none⟩) n c) ∧ w'.cell? ⟨w.heap.size, 1, none⟩ = some (.func (.func 117) #[.pointer (some ⟨g, 0, none⟩)] #[])) (first | exact ⟨ec, x1⟩ | exact ⟨ec7, x17⟩ | exact ⟨(set1_far w7 gag2 _).trans ec7, (set1_far w7 hxg _).trans x17⟩) (first
          | (go_at_call 117; refine CM.out.mono ?_; rintro e w7 ⟨rfl, b7⟩
             have qb7 : Below wr.heap.size wr w7 := ⟨b7.os, b7.tape, b7.output, b7.size, b7.block⟩
             have H7 := Lib.hid (hw.out.below qb7)
             have K7 := Lib.hid (hkb.out.below qb7 hkb.out.lt)
             have X7 := Lib.hid (hx.out.below qb7 hx.out.lt)
             have O7 := Lib.hid (ho.out.trans (Out.of_below (lo := lo) (hi := g + 1) qb7))
             have ec7 := H7.out.blk.cell 0 (u := .slice (some ⟨ga, 0, none⟩) n c) rfl
             have x17 := X7.out.cell 1 (u := .func (.func 117) #[.pointer (some ⟨g, 0, none⟩)] #[]) rfl
             have hc7 := own_cell H7.out.row k hlt
             have hf7 := H7.out.row.frozenAt k
             clear b7 qb7))
        have st := H7.out.row.stored k (.int .i64 v)
        have OT := Lib.hid (O7.out.trans (out_grown (v := .slice (some ⟨ga, 0, none⟩) n c) st.2 (fun b hb => ⟨(H7.out.row.lt b hb).1, hw.out.hi b hb⟩)))
        have W2 := Lib.hid (show WkO (w7.setCell ⟨ga, k, none⟩ (.int .i64 v)) 132 2 lo g (some ⟨ga, 0, none⟩) n c (stepN os f cs (k + 1)) s by
          rw [ES.out]
          exact ⟨(heap_setCell_other _ _ _ _ gag2).trans H7.out.blk, own_set st.1, hw.out.hi, by rw [List.length_set]; exact LS.out⟩)
        have K2 := Lib.hid (show Blk (w7.setCell ⟨ga, k, none⟩ (.int .i64 v)) go _ _ from (heap_setCell_other _ _ _ _ (show go ≠ ga by omega)).trans K7.out)
        have X2 := Lib.hid (show Blk (w7.setCell ⟨ga, k, none⟩ (.int .i64 v)) w.heap.size _ _ from (heap_setCell_other _ _ _ _ hxg).trans X7.out)
        clear st
        go_wp2
        go_roundw
        case rel => exact ⟨k + 1, by omega, by go_num, W2, K2, X2, OT⟩
        case measure => first | omega | (simp [intOf]; omega)
    · obtain rfl : k = n := by omega
      have W2 := Lib.hid (show WkO wr 132 2 lo g A k c (doStep os f cs) s by rw [DS.out]; exact hw.out)
      go_wp2
      go_end0
      exact ⟨⟨rfl, W2.out⟩, ho.out⟩
set_option maxRecDepth 100000 in
set_option maxHeartbeats 2000000 in
theorem takeSide_any {w : World} {lo g go : Nat} {A : Option Addr} {n c : Nat} {cs : List Int} {s : Int} (os : List Int) (f : List Int → Nat → Int) (h : WkO w 132 2 lo g A n c cs s) (hk : Blk w go 2 (nums .i64 os).toArray) (hgo : g < go) (hl : n ≤ 600) (hol : os.length ≤ 600)
    (hm : ∀ (w' : World) (cs' : List Int) (k : Nat), WkR w' 132 (g + 1) g A c cs' s → g + 1 ≤ w'.heap.size → cs'.length = n → k < cs'.length → Calls Tryz.prog 118 #[.pointer (some ⟨g, 0, none⟩), .int .i64 k] w' fun e w'' => e = .returned (.int .i64 (f cs' k)) ∧ Below w'.heap.size w' w'') :
    Calls Tryz.prog 111 #[.pointer (some ⟨g, 0, none⟩), .agg #[.slice (some ⟨go, 0, none⟩) os.length os.length, .func (.func 118) #[.pointer (some ⟨g, 0, none⟩)] #[]]] w fun e w' => (e = .returned (.tuple #[]) ∧ WkO w' 132 2 lo g A n c (doStep os f cs) s) ∧ Out lo (g + 1) w w' := by
  have hgl := h.blk.lt
  have b0 := (Below.refl w.heap.size w).alloc (Nat.le_refl _) (.cells #[.slice (some ⟨go, 0, none⟩) os.length os.length, .func (.func 118) #[.pointer (some ⟨g, 0, none⟩)] #[]] 145)
  have H0 : Hid (WkO (w.alloc (.cells #[.slice (some ⟨go, 0, none⟩) os.length os.length, .func (.func 118) #[.pointer (some ⟨g, 0, none⟩)] #[]] 145)) 132 2 lo g A n c (stepN os f cs 0) s) := Lib.hid (h.below b0)
  have K0 := Lib.hid (hk.below b0 hk.lt)
  have X0 := Lib.hid (Blk.new w 145 #[.slice (some ⟨go, 0, none⟩) os.length os.length, .func (.func 118) #[.pointer (some ⟨g, 0, none⟩)] #[]])
  have O0 := Lib.hid (Out.of_below (lo := lo) (hi := g + 1) b0)
  have LEN := Lib.hid h.len
  have DS := Lib.hid (show doStep os f cs = stepN os f cs n by unfold doStep; rw [h.len])
  have ec := H0.out.blk.cell 0 (u := .slice A n c) rfl
  have gne : g ≠ w.heap.size := by omega
  have HM := Lib.hid hm
  clear h hk b0 hm
  go_enter Tryz.func111, Tryz.ntmps111
  go_wp2
  go_loopw [11] (fun i wr => ∃ k : Nat, k ≤ n ∧ i = .int .i64 k ∧ Hid (WkO wr 132 2 lo g A n c (stepN os f cs k) s) ∧ Hid (Blk wr go 2 (nums .i64 os).toArray) ∧ Hid (Blk wr w.heap.size 145 #[.slice (some ⟨go, 0, none⟩) os.length os.length, .func (.func 118) #[.pointer (some ⟨g, 0, none⟩)] #[]]) ∧ Hid (Out lo (g + 1) w wr)) (fun i _ => n - (intOf i).toNat)
  case atStart => exact ⟨0, by omega, rfl, H0, K0, X0, O0⟩
  case round =>
    clear H0 K0 X0 O0 ec
    obtain ⟨k, hk, rfl, hw, hkb, hx, ho⟩ := hrel
    by_cases hlt : k < n
    · obtain ⟨ga, ca, eA, hga⟩ := own_addr hw.out.row (by omega)
      injection eA with eA e2 e3
      subst eA
      subst e3
      clear e2
      have gag := hw.out.hi ga rfl
      have hc0 := own_cell hw.out.row k hlt
      have hf0 := hw.out.row.frozenAt k
      have x0 := hx.out.cell 0 (u := .slice (some ⟨go, 0, none⟩) os.length os.length) rfl
      have x1 := hx.out.cell 1 (u := .func (.func 118) #[.pointer (some ⟨g, 0, none⟩)] #[]) rfl
      have ec := hw.out.blk.cell 0 (u := .slice (some ⟨ga, 0, none⟩) n c) rfl
      have RO := Lib.hid (Rd.blk hkb.out)
      have LS := Lib.hid ((stepN_len os f cs k).trans LEN.out)
      obtain ⟨S, hS⟩ : ∃ S, Hid (S = stepN os f cs k) := ⟨_, Lib.hid rfl⟩
      have HIT := Lib.hid (stepN_hit os f cs k)
      have MISS := Lib.hid (stepN_miss os f cs k)
      rw [← hS.out] at hc0 HIT MISS hw LS
      obtain ⟨q, hq⟩ : ∃ q, Hid (q = nth S k) := ⟨_, Lib.hid rfl⟩
      rw [← hq.out] at hc0 HIT MISS
      have gaw : ga ≠ w.heap.size := by omega
      have gag2 : g ≠ ga := by omega
      have hxg : w.heap.size ≠ ga := by omega
      go_wp2_with fail
      refine (containsC_any _ os os.length q wr _ RO.out hol).mono ?_
      rintro e w' ⟨rfl, rfl⟩
      cases hc : hasC os q with
      | false =>
        have W2 := Lib.hid (show WkO wr 132 2 lo g (some ⟨ga, 0, none⟩) n c (stepN os f cs (k + 1)) s by rw [MISS.out hc]; exact hw.out)
        clear hc
        go_wp2
        go_roundw
        case rel => exact ⟨k + 1, by omega, by go_num, W2, hkb, hx, ho⟩
        case measure => first | omega | (simp [intOf]; omega)
      | true =>
        have ES := Lib.hid (HIT.out hc)
        have R0 := hw.out.reads
        have CM := Lib.hid (HM.out wr.drew S k ⟨R0.blk, R0.lt, R0.rd⟩ (by have := hw.out.blk.lt; show g + 1 ≤ wr.heap.size; omega) LS.out (by rw [LS.out]; exact hlt))
        obtain ⟨v, hv⟩ : ∃ v, Hid (v = f S k) := ⟨_, Lib.hid rfl⟩
        rw [← hv.out] at CM ES
        clear hc R0
        go_wp2_with fail
        go_region_held3 (fun w' => w'.cell? ⟨g, 0, none⟩ = some (.slice (some ⟨ga, 0, none⟩) n c) ∧ w'.cell? ⟨w.heap.size, 1, none⟩ = some (.func (.func 118) #[.pointer (some ⟨g, 0, none⟩)] #[])) (first | exact ⟨ec, x1⟩ | exact ⟨ec7, x17⟩ | exact ⟨(set1_far w7 gag2 _).trans ec7, (set1_far w7 hxg _).trans x17⟩) (first
          | (go_at_call 118; refine CM.out.mono ?_; rintro e w7 ⟨rfl, b7⟩
             have qb7 : Below wr.heap.size wr w7 := ⟨b7.os, b7.tape, b7.output, b7.size, b7.block⟩
             have H7 := Lib.hid (hw.out.below qb7)
             have K7 := Lib.hid (hkb.out.below qb7 hkb.out.lt)
             have X7 := Lib.hid (hx.out.below qb7 hx.out.lt)
             have O7 := Lib.hid (ho.out.trans (Out.of_below (lo := lo) (hi := g + 1) qb7))
             have ec7 := H7.out.blk.cell 0 (u := .slice (some ⟨ga, 0, none⟩) n c) rfl
             have x17 := X7.out.cell 1 (u := .func (.func 118) #[.pointer (some ⟨g, 0, none⟩)] #[]) rfl
             have hc7 := own_cell H7.out.row k hlt
             have hf7 := H7.out.row.frozenAt k
             clear b7 qb7))
        have st := H7.out.row.stored k (.int .i64 v)
        have OT := Lib.hid (O7.out.trans (out_grown (v := .slice (some ⟨ga, 0, none⟩) n c) st.2 (fun b hb => ⟨(H7.out.row.lt b hb).1, hw.out.hi b hb⟩)))
        have W2 := Lib.hid (show WkO (w7.setCell ⟨ga, k, none⟩ (.int .i64 v)) 132 2 lo g (some ⟨ga, 0, none⟩) n c (stepN os f cs (k + 1)) s by
          rw [ES.out]
          exact ⟨(heap_setCell_other _ _ _ _ gag2).trans H7.out.blk, own_set st.1, hw.out.hi, by rw [List.length_set]; exact LS.out⟩)
        have K2 := Lib.hid (show Blk (w7.setCell ⟨ga, k, none⟩ (.int .i64 v)) go _ _ from (heap_setCell_other _ _ _ _ (show go ≠ ga by omega)).trans K7.out)
        have X2 := Lib.hid (show Blk (w7.setCell ⟨ga, k, none⟩ (.int .i64 v)) w.heap.size _ _ from (heap_setCell_other _ _ _ _ hxg).trans X7.out)
        clear st
        go_wp2
        go_roundw
        case rel => exact ⟨k + 1, by omega, by go_num, W2, K2, X2, OT⟩
        case measure => first | omega | (simp [intOf]; omega)
    · obtain rfl : k = n := by omega
      have W2 := Lib.hid (show WkO wr 132 2 lo g A k c (doStep os f cs) s by rw [DS.out]; exact hw.out)
      go_wp2
      go_end0
      exact ⟨⟨rfl, W2.out⟩, ho.out⟩
end Go.Proofs.YtcfnhjpmihngdaaGreat
