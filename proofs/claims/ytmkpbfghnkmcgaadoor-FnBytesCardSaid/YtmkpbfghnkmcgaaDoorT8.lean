/- The program's DecodeChunk. -/
import Derived.Test.YtmkpbfghnkmcgaaDoorT7
namespace Go.Proofs.YtmkpbfghnkmcgaaDoor
open Go.RowKit Go.Shelf
attribute [local go_sem] Oper.semAt_some

/-! what the loop's rounds keep -/
theorem grown_blk {W W' : World} {row : Option Nat} {g : Nat} {t : TypeId} {cs : Array Value} (h : Blk W g t cs) (hg : W.grownBy W' row) (hr : ∀ r, row = some r → ∃ o : Obj, W.heap[r]? = some o ∧ o.isCells = false) : Blk W' g t cs :=
  (hg.block g h.lt (fun e => by
    obtain ⟨o, ho, hc⟩ := hr g e.symm
    rw [show W.heap[g]? = _ from h] at ho
    cases ho; cases hc)).trans h
theorem grown_row {W W' : World} {row : Option Nat} {base n : Nat} {e : TypeId} {size : Nat} {v : Value} {xs : List Value} (h : W.ownsRow base e size v n xs) (hg : W.grownBy W' row) (hr : ∀ r, row = some r → ∃ o : Obj, W.heap[r]? = some o ∧ o.isCells = false) : W'.ownsRow base e size v n xs := by
  refine h.kept hg ?_
  rcases h.2 with ⟨rfl, _⟩ | ⟨g, cap, cur, rfl, _, hgb, _⟩
  · exact .inl rfl
  · refine .inr fun e => ?_
    obtain ⟨o, ho, hc⟩ := hr g (by simpa [Value.ownBlock] using e.symm)
    rw [hgb] at ho
    cases ho; cases hc
theorem keeps_grown {B : Nat} {W W' : World} {row : Option Nat} (hg : W.grownBy W' row) (hr : ∀ r, row = some r → ∃ o : Obj, W.heap[r]? = some o ∧ o.isCells = true) : KeepsFrom B W W' :=
  ⟨hg.size, fun k o _ hk ho => (hg.block k (Array.getElem?_eq_some_iff.1 hk).1 (fun e => by
    obtain ⟨o', ho', hc⟩ := hr k e.symm
    rw [hk] at ho'
    cases ho'
    rw [ho] at hc; cases hc)).trans hk⟩
theorem keeps_below {B : Nat} {W W' : World} (hb : Below W.heap.size W W') : KeepsFrom B W W' := keeps_grown (grown_of_below hb none) (fun r e => by cases e)
theorem row_cells {W : World} {base n : Nat} {e : TypeId} {size : Nat} {v : Value} {xs : List Value} (h : W.ownsRow base e size v n xs) : ∀ r, v.ownBlock = some r → ∃ o : Obj, W.heap[r]? = some o ∧ o.isCells = true := by
  intro r hr
  rcases h.2 with ⟨rfl, _⟩ | ⟨g, cap, cur, rfl, _, hgb, _⟩
  · simp [Value.ownBlock] at hr
  · simp [Value.ownBlock] at hr
    subst hr
    exact ⟨_, hgb, rfl⟩
theorem Blk.far {W : World} {g : Nat} {t : TypeId} {cs : Array Value} (h : Blk W g t cs) {p : Addr} (hp : g ≠ p.block) (u : Value) : Blk (W.setCell p u) g t cs := (heap_setCell_other W p g u hp).trans h
theorem Blk.ne_type {W : World} {g g' : Nat} {t t' : TypeId} {cs cs' : Array Value} (h : Blk W g t cs) (h' : Blk W g' t' cs') (hne : t ≠ t') : g ≠ g' := by
  rintro rfl
  have := (show W.heap[g]? = _ from h).symm.trans h'
  injection this with this
  injection this with _ ht
  exact hne ht
theorem Blk.ne_row {W : World} {g : Nat} {t : TypeId} {cs : Array Value} (h : Blk W g t cs) {base n : Nat} {e : TypeId} {size : Nat} {v : Value} {xs : List Value} (hr : W.ownsRow base e size v n xs) (hne : t ≠ e) : some g ≠ v.ownBlock := by
  rcases hr.2 with ⟨rfl, _⟩ | ⟨g', cap, cur, rfl, _, hgb, _⟩
  · simp [Value.ownBlock]
  · intro he
    obtain rfl : g = g' := by simpa [Value.ownBlock] using he
    have := (show W.heap[g]? = _ from h).symm.trans hgb
    injection this with this
    injection this with _ ht
    exact hne ht

/-- between two rounds: what came is in the answer's two fields -/
def Inv (w w3 : World) (q : Nat) (zs : List Int) (pre : List (Pos zs)) (W : World) : Prop :=
  Below w.heap.size w W ∧ FrQ w3.heap.size q w3 W ∧ ∃ v1 v2, Blk W q 32 #[.int .i64 0, v1, v2] ∧
    W.ownsRow w3.heap.size 2 1 v1 (txt zs pre).length (nums .i64 (txt zs pre)) ∧ W.ownsRow w3.heap.size 5 1 v2 (car zs pre).length (nums .u8 (car zs pre))

theorem inv_own (w w3 : World) (q : Nat) (zs : List Int) (B : Nat) (h1 : w.heap.size ≤ w3.heap.size) (h2 : w3.heap.size ≤ B) : OwnFrom B (Inv w w3 q zs) := by
  rintro pre X Y row ⟨hb, hf, v1, v2, hk, o1, o2⟩ hg hr
  have hr' : ∀ r, row = some r → ∃ o : Obj, X.heap[r]? = some o ∧ o.isCells = false := fun r e => (hr r e).2
  refine ⟨hb.grown hg hb.size (fun k e => by have := (hr k e).1; omega), ⟨Nat.le_trans hf.size hg.size, fun k hk' hq => ?_⟩, v1, v2, grown_blk hk hg hr', grown_row o1 hg hr', grown_row o2 hg hr'⟩
  exact (hg.block k (by have := hf.size; omega) (fun e => by have := (hr k e.symm).1; omega)).trans (hf.block k hk' hq)

theorem kpd_put (n₀ q : Nat) (W : World) (l : Nat) (o o' : Obj) (hl : n₀ ≤ l) (ho : W.heap[l]? = some o) (hc : o.isCells = false) : KpD n₀ q W (W.putObj l o') :=
  ⟨⟨by simp, fun k hk _ => World.putObj_heap_other (by omega)⟩, fun g cs hg => (World.putObj_heap_other (fun e => by
    subst e
    rw [show W.heap[g]? = _ from hg] at ho
    cases ho; cases hc)).trans hg⟩
theorem kpd_set (n₀ q i : Nat) (W : World) (u : Value) {cs : Array Value} (hq : Blk W q 32 cs) : KpD n₀ q W (W.setCell ⟨q, i, none⟩ u) :=
  ⟨⟨by simp, fun k _ hk => heap_setCell_other W ⟨q, i, none⟩ k u hk⟩, fun g cs' hg => hg.far (p := ⟨q, i, none⟩) (hg.ne_type hq (by decide)) u⟩

theorem rows_ne {W : World} {base base' n n' : Nat} {e e' : TypeId} {size size' : Nat} {v v' : Value} {xs xs' : List Value} (h : W.ownsRow base e size v n xs) (h' : W.ownsRow base' e' size' v' n' xs') (hne : e ≠ e') : v.ownBlock = none ∨ v.ownBlock ≠ v'.ownBlock := by
  rcases h.2 with ⟨rfl, _⟩ | ⟨g, cap, cur, rfl, _, hgb, _⟩
  · exact .inl rfl
  · exact .inr (Blk.ne_row (g := g) (t := e) (show Blk W g e _ from hgb) h' hne)

theorem inv_text (w w3 : World) (q : Nat) (zs : List Int) (pre : List (Pos zs)) (x : Pos zs) (B : Nat) (W W1 : World) (o : Obj) (v' v1 v2 : Value) (hq : q < w3.heap.size) (hwq : w.heap.size ≤ q) (hop : opn (zs.drop x.1) = false)
    (hB1 : Below w.heap.size w W) (hF1 : FrQ w3.heap.size q w3 W) (hk1 : Blk W q 32 #[.int .i64 0, v1, v2])
    (o1 : W.ownsRow w3.heap.size 2 1 v1 (txt zs pre).length (nums .i64 (txt zs pre))) (o2 : W.ownsRow w3.heap.size 5 1 v2 (car zs pre).length (nums .u8 (car zs pre)))
    (hv : W1.ownsRow w3.heap.size 2 1 v' ((txt zs pre).length + 1) (nums .i64 (txt zs pre) ++ [.int .i64 (dr (zs.drop x.1)).1])) (hg : (W.alloc o).grownBy W1 v1.ownBlock) :
    Blk W1 q 32 #[.int .i64 0, v1, v2] ∧ KeepsFrom B W (W1.setCell ⟨q, 1, none⟩ v') ∧ KpD w3.heap.size q W (W1.setCell ⟨q, 1, none⟩ v') ∧ Inv w w3 q zs (pre ++ [x]) (W1.setCell ⟨q, 1, none⟩ v') := by
  have ha : Below W.heap.size W (W.alloc o) := (Below.refl _ W).alloc (Nat.le_refl _) o
  have o1a := own_below o1 ha
  have o2a := own_below o2 ha
  have hka := hk1.alloc o
  have hne1 := Blk.ne_row hk1 o1 (by decide)
  have sz1 := hF1.size
  have sz2 := hB1.size
  have szg := hg.size
  rw [World.size_alloc] at szg
  have hkb : Blk W1 q 32 #[.int .i64 0, v1, v2] := (hg.block q hka.lt hne1).trans hka
  have hlow : ∀ r, v1.ownBlock = some r → w3.heap.size ≤ r := fun r h => (o1.lt r h).1
  have f1 : FrQ w3.heap.size q W W1 := ⟨by omega, fun k hk hkq => (hg.block k (by simp; omega) (fun e => by have := hlow k e.symm; omega)).trans (ha.block k (by omega))⟩
  have kp1 : KpD w3.heap.size q W W1 := ⟨f1, fun g cs h => (hg.block g (h.alloc o).lt (Blk.ne_row h o1 (by decide))).trans (h.alloc o)⟩
  have o2b := o2a.kept hg (rows_ne o2 o1 (by decide))
  have o2c := ((Own.mk_ (kd := .u8) o2b rfl).set ⟨q, 2 - 1, none⟩ v' (.inl hq)).1
  have l1 : (txt zs pre).length + 1 = (txt zs (pre ++ [x])).length := by rw [txt_snoc]; simp [txt1, hop]
  have hv2 : W1.ownsRow w3.heap.size 2 1 v' (txt zs (pre ++ [x])).length (nums .i64 (txt zs (pre ++ [x]))) := by
    rw [← l1, txt_snoc]
    simp only [txt1, hop, Bool.false_eq_true, if_false, nums, List.map_append, List.map_cons, List.map_nil] at hv ⊢
    exact hv
  have o1c := ((Own.mk_ (kd := .i64) hv2 rfl).set ⟨q, 1, none⟩ v' (.inl hq)).1
  have kp2 := kpd_set w3.heap.size q 1 W1 v' hkb
  refine ⟨hkb, ((keeps_below ha).trans (keeps_grown hg (row_cells o1a))).trans ((KeepsOthers.setCell _ _ _).from _), kp1.trans kp2, ?_, (hF1.trans f1).trans kp2.frq, v', v2, ?_, o1c, ?_⟩
  · exact ((hB1.trans (ha.mono sz2)).grown hg (by simp; omega) (fun k e => by have := hlow k e; omega)).setCell (by simpa using hwq) _
  · have := hkb.set 1 v'
    simpa using this
  · have e : car zs (pre ++ [x]) = car zs pre := by rw [car_snoc]; simp [car1, hop]
    rw [e]; exact o2c

theorem inv_carry (w w3 : World) (q : Nat) (zs : List Int) (pre : List (Pos zs)) (x : Pos zs) (B : Nat) (W W1 : World) (v' v1 v2 : Value) (hq : q < w3.heap.size) (hwq : w.heap.size ≤ q) (hop : opn (zs.drop x.1) = true)
    (hB1 : Below w.heap.size w W) (hF1 : FrQ w3.heap.size q w3 W) (hk1 : Blk W q 32 #[.int .i64 0, v1, v2])
    (o1 : W.ownsRow w3.heap.size 2 1 v1 (txt zs pre).length (nums .i64 (txt zs pre))) (o2 : W.ownsRow w3.heap.size 5 1 v2 (car zs pre).length (nums .u8 (car zs pre)))
    (hv : Own W1 W.heap.size W1.heap.size 5 .u8 v' ((zs.drop x.1).take (front (zs.drop x.1)))) (hb : Below W.heap.size W W1) :
    Blk W1 q 32 #[.int .i64 0, v1, v2] ∧ KeepsFrom B W (W1.setCell ⟨q, 2, none⟩ v') ∧ KpD w3.heap.size q W (W1.setCell ⟨q, 2, none⟩ v') ∧ Inv w w3 q zs (pre ++ [x]) (W1.setCell ⟨q, 2, none⟩ v') := by
  have sz1 := hF1.size
  have sz2 := hB1.size
  have szg := hb.size
  have hkb := hk1.below hb hk1.lt
  have f1 : FrQ w3.heap.size q W W1 := FrQ.of_below hb (by omega)
  have kp1 : KpD w3.heap.size q W W1 := KpD.of_below hb (by omega)
  have o1b := own_below o1 hb
  have e1 : txt zs (pre ++ [x]) = txt zs pre := by rw [txt_snoc]; simp [txt1, hop]
  have e2 : car zs (pre ++ [x]) = (zs.drop x.1).take (front (zs.drop x.1)) := by rw [car_snoc]; simp [car1, hop]
  have o1c := ((Own.mk_ (kd := .i64) o1b rfl).set ⟨q, 2, none⟩ v' (.inl hq)).1
  have o2c := ((Own.mk_ (kd := .u8) (own_more hv.1 (by omega : w3.heap.size ≤ W.heap.size)) rfl).set ⟨q, 2, none⟩ v' (.inl hq)).1
  have kp2 := kpd_set w3.heap.size q 2 W1 v' hkb
  refine ⟨hkb, (keeps_below hb).trans ((KeepsOthers.setCell _ _ _).from _), kp1.trans kp2, ?_, (hF1.trans f1).trans kp2.frq, v1, v', ?_, ?_, ?_⟩
  · exact (hB1.trans (hb.mono sz2)).setCell (by simpa using hwq) _
  · have := hkb.set 2 v'
    simpa using this
  · rw [e1]; exact o1c
  · rw [e2]; exact o2c

set_option maxRecDepth 100000 in
set_option maxHeartbeats 4000000 in
theorem decodeChunk_main (A0 A1 : Option Addr) (c0 c1 : Nat) (zs0 : List Int) (zs1 : List Int) (w : World) (hT : Tabs w) (B0 : Nat) (h0 : Rd w B0 A0 (nums .u8 zs0)) (hB0 : B0 ≤ w.heap.size) (hw0 : ∀ n ∈ zs0, isByte n) (hc : carryF zs0 = 0)
    (B1 : Nat) (h1 : Rd w B1 A1 (nums .u8 zs1)) (hB1 : B1 ≤ w.heap.size) (l1 : zs1.length ≤ 600) (hw1 : ∀ n ∈ zs1, isByte n) :
    Calls Tryd.prog 8 #[.slice A0 zs0.length c0, .slice A1 zs1.length c1] w fun e w' => (∃ u1 u2, e = .returned (.agg #[.int .i64 0, u1, u2]) ∧ Own w' w.heap.size w'.heap.size 2 .i64 u1 (decode (zs0 ++ zs1)).1 ∧ Own w' w.heap.size w'.heap.size 5 .u8 u2 (decode (zs0 ++ zs1)).2 ∧ (u1.ownBlock = none ∨ u1.ownBlock ≠ u2.ownBlock)) ∧ Below w.heap.size w w' := by
  have l0 := carryF_len hc
  obtain ⟨i0, hi, hz0, hz1, hz2⟩ := info_parts info_int64
  have HT := Lib.hid hT
  have R0 := Lib.hid h0
  have R1 := Lib.hid h1
  have HW0 := Lib.hid hw0
  have HW1 := Lib.hid hw1
  have HC := Lib.hid hc
  clear hT h0 h1 hw0 hw1 hc
  have b0 := (Below.refl w.heap.size w).alloc (Nat.le_refl _) (.cells #[.int .i64 0, .slice none 0 0, .slice none 0 0] 32)
  have k0 := Blk.new w 32 #[.int .i64 0, .slice none 0 0, .slice none 0 0]
  refine (callsIn_wide (n := 6)).1 ?_
  refine callsIn_of_wp_marks Tryd.func8 rfl trivial ?_ rfl
  simp only [Tryd.ntmps8, List.size_toArray, List.length_cons, List.length_nil, Nat.reduceAdd, Nat.reduceSub, Array.replicate_succ, Array.replicate_zero, List.push_toArray, List.append_toArray, List.nil_append, List.cons_append]
  gi_wp2_with (first
    | (refine ⟨trivial, ?_⟩; gi_at_call 24; refine (callsIn_wide.2 (carryFault_any A0 zs0 c0 _ B0 (HT.out.alloc _) (R0.out.below b0 hB0) (by simp; omega) HW0.out (by omega))).mono ?_; rintro e w1 ⟨rfl, b1⟩; rw [HC.out])
    | fail)
  have b2 := below_on b0 b1 (Nat.le_refl _)
  have k1 := k0.below b1 k0.lt
  have t1 := k1.lt
  have b3 := ((Below.refl w1.heap.size w1).alloc (Nat.le_refl _) (.cells #[.int .i64 0, .slice none 0 0, .slice none 0 0] 32)).alloc (by simp) (.cells #[.slice A0 zs0.length c0, .slice A1 zs1.length c1] 22)
  have kA := (Blk.new w1 32 #[.int .i64 0, .slice none 0 0, .slice none 0 0]).alloc (.cells #[.slice A0 zs0.length c0, .slice A1 zs1.length c1] 22)
  have kV := Blk.new (w1.alloc (.cells #[.int .i64 0, .slice none 0 0, .slice none 0 0] 32)) 22 #[.slice A0 zs0.length c0, .slice A1 zs1.length c1]
  rw [World.size_alloc] at kV
  have sz2 := b2.size
  refine ⟨trivial, ?_⟩
  refine (callsIn_wide.2 (concatByte_own (w1.heap.size + 1) 22 _ _ zs0 zs1 _ B0 B1 kV ⟨_, _, rfl, (R0.out.below b2 hB0).below b3 (by omega)⟩ ⟨_, _, rfl, (R1.out.below b2 hB1).below b3 (by omega)⟩ (by simp; omega) (by simp; omega) (by omega) (by omega))).mono ?_
  rintro e w3 ⟨⟨data, rfl, o3⟩, b4⟩
  obtain ⟨A2, C2, rfl⟩ := o3.form
  have cp := own_cap o3.1
  have hA2 : ∀ a, A2 = some a → a.block ≠ w1.heap.size := fun a ha e => by
    have := (o3.lt a.block (by rw [ha]; rfl)).1
    rw [World.size_alloc, World.size_alloc] at this
    omega
  have b5 : Below w.heap.size w w3 := below_on b2 (b3.trans (b4.mono (by simp; omega))) (Nat.le_refl _)
  have k3 := (k1.below b3 k1.lt).below b4 (by simp; omega)
  have kA3 := kA.below b4 kA.lt
  have sz3 := b4.size
  rw [World.size_alloc, World.size_alloc] at sz3
  have hR3 := Lib.hid (Rd.of o3.1)
  have hT3 := Lib.hid (HT.out.on b5)
  obtain ⟨zs, hzs⟩ : ∃ zs, Hid (zs = zs0 ++ zs1) := ⟨_, Lib.hid rfl⟩
  have hby : ∀ b ∈ zs, isByte b := fun b hb => by
    rw [hzs.out] at hb
    rcases List.mem_append.1 hb with h | h
    · exact HW0.out b h
    · exact HW1.out b h
  have hlz : zs.length ≤ 603 := by rw [hzs.out]; simp; omega
  rw [← hzs.out] at hR3 cp ⊢
  have HBY := Lib.hid hby
  clear hby b3 b4 b1 b0 k0 kA kV o3
  unfold maxLen at cp
  gi_wp2_with (refine ⟨trivial, ?_⟩; gi_at_call 37; refine (callsIn_wide.2 (pieces_any A2 zs.length C2 _)).mono ?_; rintro e w' ⟨rfl, rfl⟩)
  have hbq : ∀ b, Option.map Addr.block A2 = some b → b ≠ w1.heap.size := by
    intro b hb
    obtain ⟨a, rfl, rfl⟩ := Option.map_eq_some_iff.1 hb
    exact fun e => hA2 a rfl e
  have kbox := Blk.new w3 22 #[.slice A2 zs.length C2]
  have cbox := kbox.cell 0 (u := .slice A2 zs.length C2) rfl
  have hT4 := hT3.out.alloc (.cells #[.slice A2 zs.length C2] 22)
  have tlt := hT3.out.lt
  have tlw := HT.out.lt
  have b6 := b5.alloc b5.size (.cells #[.slice A2 zs.length C2] 22)
  have kA4 := kA3.alloc (.cells #[.slice A2 zs.length C2] 22)
  have hbn := b5.size
  refine wpIn_rangeFunc_ownH rfl (by omega) (gf := 55) (lb := #[.pointer (some ⟨w3.heap.size, 0, none⟩)]) rfl trivial (enters_of Tryd.func55 (by kernel_rfl) rfl)
    (pieces_stops 5 (by omega) w3.heap.size w3.heap.size w1.heap.size C2 A2 zs cp.1 (by omega) HBY.out _ (by simp) (by simp) hT4 tlt ⟨by omega, by omega⟩ hbq cbox (hR3.out.below ((Below.refl w3.heap.size w3).alloc (Nat.le_refl _) _) (Nat.le_refl _)))
    (fun h k => h.trans k) (fun W l o o' hl ho hc _ => kpd_put _ _ W l o o' (by simp at hl; omega) ho hc) (Below.refl _ _) (fun _ => rfl)
    (Inv w w3 w1.heap.size zs) (fun _ _ _ => False) (inv_own w w3 w1.heap.size zs _ hbn (by simp)) (fun _ _ _ _ _ hs _ _ => hs)
    ⟨b6, FrQ.of_below ((Below.refl _ _).alloc (Nat.le_refl _) _) (Nat.le_refl _), _, _, kA4, by simp [txt, nums]; exact World.ownsRow_nil _ _ _ _, by simp [car, nums]; exact World.ownsRow_nil _ _ _ _⟩
    (fun x a' W => ∃ g, Blk W g 60 #[.slice (some ⟨(A2.getD ⟨0, 0, none⟩).block, (A2.getD ⟨0, 0, none⟩).off + x.1, none⟩) (front (zs.drop x.1)) (C2 - x.1), .int .i64 (dr (zs.drop x.1)).1, .bool (opn (zs.drop x.1))] ∧ a' = { tmps := #[.slice A0 zs0.length c0, .slice A1 zs1.length c1, undef, undef, .pointer (some ⟨w.heap.size, 0, none⟩), .int .i64 0, .pointer (some ⟨w1.heap.size, 0, none⟩), .pointer (some ⟨g, 0, none⟩), .slice A0 zs0.length c0, .int .i64 0, .int .i64 0, .bool false, undef, undef, .slice A1 zs1.length c1, .int .i64 zs1.length, .bool (decide ((600 : Int) < zs1.length)), undef, .slice A0 zs0.length c0, .slice A1 zs1.length c1, .slice (some ⟨w1.heap.size + 1, 0, none⟩) 2 2, .slice A2 zs.length C2, .func (.func 55) #[] #[.pointer (some ⟨w3.heap.size, 0, none⟩)], pieceAt (A2.getD ⟨0, 0, none⟩).block (A2.getD ⟨0, 0, none⟩).off C2 zs x.1, undef, undef, undef, undef, undef, undef, undef, undef, undef, undef, undef, undef, undef, undef], defers := [] })
    (fun x a' _ X Y row hs hg hr => by obtain ⟨g, h1, h2⟩ := hs; exact ⟨g, grown_blk h1 hg (fun r e => (hr r e).2), h2⟩)
    ?assign ?body ?done ?stop
  case assign =>
    rintro l pre x W K ⟨hB1, hF1, v1, v2, hk1, o1, o2⟩ hK
    dsimp only [pieceAt]
    gi_wp2
    exact hK _ _ ((KeepsOthers.alloc _ _).from _) (KpD.of_below ((Below.refl _ W).alloc (Nat.le_refl _) _) (by have := hF1.size; omega)) ⟨hB1.alloc hB1.size _, hF1.trans (FrQ.of_below ((Below.refl _ W).alloc (Nat.le_refl _) _) (by have := hF1.size; omega)), v1, v2, hk1.alloc _, o1.alloc _, o2.alloc _⟩ ⟨W.heap.size, Blk.new W _ _, rfl⟩
  case body =>
    rintro l pre x a' W hl' ⟨r, hr⟩ ⟨hB1, hF1, v1, v2, hk1, o1, o2⟩ ⟨g, hg, rfl⟩ hlt
    have hc0 := hg.cell 2 (u := .bool (opn (zs.drop x.1))) rfl
    have tl := txt_len zs pre
    have szF := hF1.size
    cases hop : opn (zs.drop x.1)
    · rw [hop] at hc0
      have c1 := hk1.cell 1 (u := v1) rfl
      have c2 := hg.cell 1 (u := .int .i64 (dr (zs.drop x.1)).1) rfl
      gi_wp2_with (gi_at_builtin; refine wpListIn_append_own _ rfl _ _ 24 rfl w3.heap.size 2 i0 (.int .i64 0) 1 8 Tryd.underlying24 hi hz0 hz1 hz2 rfl (by decide) _ _ _ rfl (own_below o1 ((Below.refl _ W).alloc (Nat.le_refl _) _)) ⟨W.heap.size, 0, none⟩ 1 1 [.int .i64 (dr (zs.drop x.1)).1] rfl rfl (cell_one_new _ _ _) (by simp [Value.oneCell']) (by unfold maxLen; omega) (by omega) (by simp; omega) ?_; intro v' W1 hown' hgrow _; obtain ⟨g', cap', rfl⟩ := ownsRow_succ hown'; obtain ⟨hkb, kf, kp, iv⟩ := inv_text w w3 w1.heap.size zs pre x (w3.alloc (.cells #[.slice A2 zs.length C2] 22)).heap.size W W1 _ _ v1 v2 (by omega) (by omega) hop hB1 hF1 hk1 o1 o2 hown' hgrow; have hc1 := hkb.cell 1 (u := v1) rfl; have hf1 := hkb.frozen 1)
      exact ⟨kf, kp, iv⟩
    · rw [hop] at hc0
      have c1 := hg.cell 0 (u := .slice (some ⟨(A2.getD ⟨0, 0, none⟩).block, (A2.getD ⟨0, 0, none⟩).off + x.1, none⟩) (front (zs.drop x.1)) (C2 - x.1)) rfl
      have hf2 := hk1.frozen 2
      have fl := front_len (zs.drop x.1) (by have := x.2; simp; omega)
      have hdl : (zs.drop x.1).length = zs.length - x.1 := by simp
      have hlt2 := x.2
      obtain ⟨b, off, rfl, hbl, _⟩ := hR3.out.int (by omega)
      have RD := ((hR3.out.frq hF1 hbl (hbq b rfl)).drop x.1).take (front (zs.drop x.1))
      rw [← nums_drop, ← nums_take] at RD
      have tkl : ((zs.drop x.1).take (front (zs.drop x.1))).length = front (zs.drop x.1) := by rw [List.length_take]; omega
      have SE := Lib.hid (show Sees W w3.heap.size .u8 (.slice (some ⟨b, off + x.1, none⟩) (front (zs.drop x.1)) (C2 - x.1)) ((zs.drop x.1).take (front (zs.drop x.1))) from ⟨some ⟨b, off + x.1, none⟩, C2 - x.1, by rw [tkl], RD⟩)
      have TKL := Lib.hid tkl
      clear RD tkl
      gi_wp2_with (refine ⟨trivial, ?_⟩; gi_at_call 39; refine (CallsIn.inRound l (callsIn_wide.2 (cloneByte_own _ _ W w3.heap.size SE.out szF (by rw [TKL.out]; omega)))).mono ?_; rintro e W1 ⟨⟨v', rfl, ov⟩, bw⟩; obtain ⟨A7, C7, hv7⟩ := ov.form; rw [TKL.out] at hv7; subst hv7; obtain ⟨hkb, kf, kp, iv⟩ := inv_carry w w3 w1.heap.size zs pre x (w3.alloc (.cells #[.slice (some ⟨b, off, none⟩) zs.length C2] 22)).heap.size W W1 _ v1 v2 (by omega) (by omega) hop hB1 hF1 hk1 o1 o2 ov bw; have hc2 := hkb.cell 2 (u := v2) rfl; have hf3 := hkb.frozen 2)
      exact ⟨kf, kp, iv⟩
  case done =>
    rintro D xs W hD rfl ⟨hB1, hF1, v1, v2, hk1, o1, o2⟩ hK
    obtain ⟨A5, C5, rfl⟩ := own_form o1
    obtain ⟨A6, C6, rfl⟩ := own_form o2
    have c0 := hk1.cell 0 (u := .int .i64 0) rfl
    have c1 := hk1.cell 1 (u := .slice A5 (txt zs (posA zs 0)).length C5) rfl
    have c2 := hk1.cell 2 (u := .slice A6 (car zs (posA zs 0)).length C6) rfl
    have kR : Blk W w.heap.size 32 #[.int .i64 0, .slice none 0 0, .slice none 0 0] := (hF1.block w.heap.size (by omega) (by omega)).trans k3
    have d0 := kR.cell 0 (u := .int .i64 0) rfl
    have d1 := kR.cell 1 (u := .slice none 0 0) rfl
    have d2 := kR.cell 2 (u := .slice none 0 0) rfl
    have e0 := kR.frozen 0
    have e1 := kR.frozen 1
    have e2 := kR.frozen 2
    gi_wp2
    have hwq : w.heap.size < w3.heap.size := by omega
    have hDw : D ≠ w.heap.size := by simp at hD; omega
    have hK' : (((W.setCell ⟨w.heap.size, 0, none⟩ (.int .i64 0)).setCell ⟨w.heap.size, 1, none⟩ (.slice A5 (txt zs (posA zs 0)).length C5)).setCell ⟨w.heap.size, 2, none⟩ (.slice A6 (car zs (posA zs 0)).length C6)).heap[D]? = some (.deferred (some [])) := by
      rw [heap_setCell_other _ _ _ _ hDw, heap_setCell_other _ _ _ _ hDw, heap_setCell_other _ _ _ _ hDw]; exact hK
    have k9 := ((kR.set 0 (.int .i64 0)).set 1 (.slice A5 (txt zs (posA zs 0)).length C5)).set 2 (.slice A6 (car zs (posA zs 0)).length C6)
    have p1 := (((Own.mk_ (kd := .i64) o1 rfl).set ⟨w.heap.size, 0, none⟩ (.int .i64 0) (.inl hwq)).set ⟨w.heap.size, 1, none⟩ (.slice A5 (txt zs (posA zs 0)).length C5) (.inl hwq)).set ⟨w.heap.size, 2, none⟩ (.slice A6 (car zs (posA zs 0)).length C6) (.inl hwq)
    have p2 := (((Own.mk_ (kd := .u8) o2 rfl).set ⟨w.heap.size, 0, none⟩ (.int .i64 0) (.inl hwq)).set ⟨w.heap.size, 1, none⟩ (.slice A5 (txt zs (posA zs 0)).length C5) (.inl hwq)).set ⟨w.heap.size, 2, none⟩ (.slice A6 (car zs (posA zs 0)).length C6) (.inl hwq)
    have b9 := ((hB1.setCell (p := ⟨w.heap.size, 0, none⟩) (by simp) (.int .i64 0)).setCell (p := ⟨w.heap.size, 1, none⟩) (by simp) (.slice A5 (txt zs (posA zs 0)).length C5)).setCell (p := ⟨w.heap.size, 2, none⟩) (by simp) (.slice A6 (car zs (posA zs 0)).length C6)
    have hno : ((Value.slice A5 (txt zs (posA zs 0)).length C5).ownBlock = none ∨ (Value.slice A5 (txt zs (posA zs 0)).length C5).ownBlock ≠ (Value.slice A6 (car zs (posA zs 0)).length C6).ownBlock) := rows_ne o1 o2 (by decide)
    clear c0 c1 c2 d0 d1 d2 e0 e1 e2 o1 o2 kR
    generalize ((W.setCell ⟨w.heap.size, 0, none⟩ (.int .i64 0)).setCell ⟨w.heap.size, 1, none⟩ (.slice A5 (txt zs (posA zs 0)).length C5)).setCell ⟨w.heap.size, 2, none⟩ (.slice A6 (car zs (posA zs 0)).length C6) = W9 at hK' k9 p1 p2 b9 ⊢
    refine ⟨by simp, .inl ⟨_, _, rfl, run_takeDeferred hK', ?_⟩⟩
    have kX : Blk (W9.putObj D (.deferred none)) w.heap.size 32 #[.int .i64 0, .slice A5 (txt zs (posA zs 0)).length C5, .slice A6 (car zs (posA zs 0)).length C6] := by
      exact (World.putObj_heap_other (Ne.symm hDw)).trans (by simpa using k9 : Blk W9 w.heap.size 32 #[.int .i64 0, .slice A5 (txt zs (posA zs 0)).length C5, .slice A6 (car zs (posA zs 0)).length C6])
    have f0 := kX.cell 0 (u := .int .i64 0) rfl
    have f1 := kX.cell 1 (u := .slice A5 (txt zs (posA zs 0)).length C5) rfl
    have f2 := kX.cell 2 (u := .slice A6 (car zs (posA zs 0)).length C6) rfl
    have q1 := own_more (ownsRow_putObj p1.1 (.deferred none) hK' rfl) (by omega : w.heap.size ≤ w3.heap.size)
    have q2 := own_more (ownsRow_putObj p2.1 (.deferred none) hK' rfl) (by omega : w.heap.size ≤ w3.heap.size)
    refine ⟨.agg #[.int .i64 0, .slice A5 (txt zs (posA zs 0)).length C5, .slice A6 (car zs (posA zs 0)).length C6], by simp [results, Tryd.results8, go_sem, f0, f1, f2], ⟨_, _, rfl, ?_, ?_, hno⟩, ?_⟩
    · rw [← hzs.out, ← txt_all]
      exact Own.mk_ q1 rfl
    · rw [← hzs.out, ← car_all]
      exact Own.mk_ q2 rfl
    · exact b9.grown (grownBy_putObj' W9 D _) b9.size (fun k e => by injection e with e; subst e; simp at hD; omega)
  case stop =>
    rintro D c pre W _ _ h _
    exact h.elim
end Go.Proofs.YtmkpbfghnkmcgaaDoor
