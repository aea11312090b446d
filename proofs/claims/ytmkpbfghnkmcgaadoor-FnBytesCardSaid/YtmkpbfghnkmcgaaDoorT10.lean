/- DecodeAll: the reference's and the program's. -/
import Derived.Test.YtmkpbfghnkmcgaaDoorT9
import Derived.Deep.RegionWith
namespace Go.Proofs.YtmkpbfghnkmcgaaDoor
open Go.RowKit

def allT (zs : List Int) : List Int := (decode zs).1 ++ (if (decode zs).2.length = 0 then [] else [65533])
def allC (zs : List Int) : Int := if 600 < zs.length then 2 else 0
def allL (zs : List Int) : List Int := if 600 < zs.length then [] else allT zs

theorem decode_rest (bs : List Int) (hb : ∀ b ∈ bs, isByte b) : carryF (decode bs).2 = 0 := by
  fun_induction decode bs with
  | case1 bs h => simp [carryF]
  | case2 bs h1 h2 =>
    have hs := size0_cases (nth bs 0)
    unfold carryF
    rw [if_pos]
    right
    rw [begins_eq bs (by omega)]
    simp
    omega
  | case3 bs h1 h2 h3 r ih => exact ih fun b h => hb b (List.mem_of_mem_drop h)

theorem decode_carryless (zs : List Int) (hb : ∀ b ∈ zs, isByte b) : flushT (decode zs).2 = (if (decode zs).2.length = 0 then [] else [65533]) := by
  unfold flushT
  have h := decode_rest zs hb
  by_cases h0 : (decode zs).2.length = 0
  · rw [if_neg (by omega), if_pos h0]
  · rw [if_pos ⟨h, by omega⟩, if_neg h0]

theorem allL_len (zs : List Int) : (allL zs).length ≤ 601 := by
  unfold allL allT
  have := decode_len zs
  split
  · simp
  · rw [List.length_append]
    split <;> simp <;> omega

theorem carryF_nil : carryF [] = 0 := by simp [carryF]
theorem chunk_nil (zs : List Int) : chunkC [] zs = allC zs := by unfold chunkC allC; rw [if_pos carryF_nil]
theorem decode_bytes {p : Int → Prop} (bs : List Int) (hb : ∀ b ∈ bs, p b) : ∀ b ∈ (decode bs).2, p b := by
  fun_induction decode bs with
  | case1 bs h => simp
  | case2 bs h1 h2 => exact hb
  | case3 bs h1 h2 h3 r ih => exact ih fun b h => hb b (List.mem_of_mem_drop h)

/-- the length is within the capacity, and that within what there is -/
def Caps (v : Value) : Prop := ∀ A n c, v = .slice A n c → n ≤ c ∧ c ≤ maxLen
theorem Own.caps {w : World} {lo hi : Nat} {t : TypeId} {kd : IntKind} {v : Value} {zs : List Int} (h : Own w lo hi t kd v zs) : Caps v := by
  intro A n c e
  subst e
  have := h.cap
  exact ⟨this.2.1, this.2.2⟩

set_option maxRecDepth 100000 in
set_option maxHeartbeats 1000000 in
theorem l1All_own (v : Value) (zs : List Int) (w : World) (B : Nat) (h : Sees w B .u8 v zs) (hB : B ≤ w.heap.size) (l : zs.length ≤ 600) (hw : ∀ b ∈ zs, isByte b) (hcp : Caps v) :
    Calls Tryd.prog 45 #[v] w fun e w' => (∃ A1 c1, e = .returned (.slice A1 (allT zs).length c1) ∧ Own w' w.heap.size w'.heap.size 2 .i64 (.slice A1 (allT zs).length c1) (allT zs)) ∧ Below w.heap.size w w' := by
  obtain ⟨i0, hi, hz0, hz1, hz2⟩ := info_parts info_int64
  obtain ⟨A, c, rfl, hr⟩ := h
  have HR := Lib.hid hr
  have HW := Lib.hid hw
  have cp := hcp A _ c rfl
  unfold maxLen at cp
  have dl := decode_len zs
  obtain ⟨D, hD⟩ : ∃ D, Hid (D = decode zs) := ⟨_, Lib.hid rfl⟩
  have ET : Hid (allT zs = D.1 ++ (if D.2.length = 0 then [] else [65533])) := Lib.hid (by unfold allT; rw [hD.out])
  rw [← hD.out] at dl
  clear hr hw hcp
  go_enter Tryd.func45, Tryd.ntmps45
  go_wp2_with fail
  refine (l1Decode_n A zs zs.length c _ B rfl HR.out hB HW.out (by omega) cp.1 (by omega)).mono ?_
  rintro e w1 ⟨⟨A1, c1, v2, rfl, o1, hs⟩, b1⟩
  rw [← hD.out] at o1 hs ⊢
  obtain ⟨A2, c2, rfl, _⟩ := hs
  have O1 := Lib.hid o1
  have sz := b1.size
  by_cases h0 : D.2.length = 0
  · have e0 : Hid (allT zs = D.1) := Lib.hid (by rw [ET.out, if_pos h0, List.append_nil])
    have H0 := Lib.hid h0
    have f0 : ¬ (0 < (D.2.length : Int)) := by omega
    clear o1
    go_wp2
    go_ret
    rw [e0.out]
    exact ⟨⟨A1, c1, rfl, O1.out⟩, b1⟩
  · have e0 : Hid (allT zs = D.1 ++ [65533]) := Lib.hid (by rw [ET.out, if_neg h0])
    have f0 : 0 < (D.2.length : Int) := by omega
    clear o1
    go_wp2_with (at_builtin; refine wpList_app rfl _ _ _ rfl w.heap.size Tryd.underlying24 hi hz0 hz1 hz2 rfl (by omega) rfl ((O1.out.alloc _).1) rfl (Rd.lit _ #[.int .i64 65533] _) (m := 1) rfl (nums_one .i64 [65533]) (by omega) (by omega) (by simp; omega) ?_; intro v' w3 o3 g3 a3)
    have g4 : (w1.alloc (.cells #[.int .i64 65533] 2)).grownBy w3 (Value.slice A1 D.1.length c1).ownBlock := g3
    clear g3 a3
    obtain ⟨A3, c3, rfl⟩ := own_form o3
    go_ret
    have l3 : D.1.length + 1 = (D.1 ++ [65533]).length := by simp
    rw [e0.out, ← l3]
    exact ⟨⟨A3, c3, rfl, Own.mk_ (by simpa [nums] using o3) l3⟩, (b1.alloc sz _).grown g4 (by simp; omega) (fun k hk => (O1.out.lt k hk).1)⟩

set_option maxRecDepth 100000 in
set_option maxHeartbeats 1000000 in
theorem specDecodeAll_val (v : Value) (zs : List Int) (w : World) (_ : Tabs w) (B : Nat) (h : Sees w B .u8 v zs) (hB : B ≤ w.heap.size) (l : zs.length < 1000000000) (hw : ∀ n ∈ zs, (Lit.int .u8 n).wf = true) (hcp : Caps v) :
    Calls Tryd.prog 17 #[v] w fun e w' => (∃ u, e = .returned (.agg #[.int .i64 (allC zs), u]) ∧ Own w' w.heap.size w'.heap.size 2 .i64 u (allL zs)) ∧ Below w.heap.size w w' := by
  have HS := Lib.hid h
  have HW := Lib.hid hw
  have HP := Lib.hid hcp
  obtain ⟨A, c, rfl, _⟩ := h
  clear hw hcp
  have b0 := (Below.refl w.heap.size w).alloc (Nat.le_refl _) (.cells #[.int .i64 0, .slice none 0 0] 36)
  have k0 := Blk.new w 36 #[.int .i64 0, .slice none 0 0]
  by_cases g : 600 < zs.length
  · have EC : Hid (allC zs = 2) := Lib.hid (by unfold allC; rw [if_pos g])
    have EL : Hid (allL zs = []) := Lib.hid (by unfold allL; rw [if_pos g])
    have hd0 := k0.cell 0 (u := .int .i64 0) rfl
    have hd1 := k0.cell 1 (u := .slice none 0 0) rfl
    have hf0 := k0.frozen 0
    have hf1 := k0.frozen 1
    go_enter Tryd.func17, Tryd.ntmps17
    go_wp2
    refine bodyPost_ret (v := .agg #[.int .i64 2, .slice none 0 0]) (by simp [results, Tryd.results17, go_sem]) rfl ?_
    rw [EC.out, EL.out]
    exact ⟨⟨_, rfl, Own.nil _ _ _ _ _⟩, (Below.refl w.heap.size w).alloc (Nat.le_refl _) _⟩
  · have EC : Hid (allC zs = 0) := Lib.hid (by unfold allC; rw [if_neg g])
    have EL : Hid (allL zs = allT zs) := Lib.hid (by unfold allL; rw [if_neg g])
    go_enter Tryd.func17, Tryd.ntmps17
    go_wp2_with fail
    refine (l1All_own _ zs _ B (HS.out.alloc hB _) (by simp; omega) (by omega) (bytes_of HW.out) HP.out).mono ?_
    rintro e w1 ⟨⟨A1, c1, rfl, o1⟩, b1⟩
    have k1 := k0.below b1 k0.lt
    have b2 := below_on b0 b1 (Nat.le_refl _)
    have hd0 := k1.cell 0 (u := .int .i64 0) rfl
    have hd1 := k1.cell 1 (u := .slice none 0 0) rfl
    have hf0 := k1.frozen 0
    have hf1 := k1.frozen 1
    have O1 := Lib.hid o1
    clear o1 b1
    go_wp2
    refine bodyPost_ret (v := .agg #[.int .i64 0, .slice A1 (allT zs).length c1]) (by simp [results, Tryd.results17, go_sem, hd0, hd1]) rfl ?_
    rw [EC.out, EL.out]
    refine ⟨⟨_, rfl, ?_⟩, (b2.setCell (by simp) _).setCell (by simp) _⟩
    have o2 := O1.out
    rw [World.size_alloc] at o2
    exact ((o2.set _ _ (.inl (by simp))).set _ _ (.inl (by simp))).more (by omega) (by simp)

theorem field_text (x y : Value) (A : Option Addr) (n c : Nat) (w : World) : (Instr.field 32 (.agg #[x, .slice A n c, y]) 1).run Tryd.prog w = .ok (.slice A n c) w := by
  simp [Instr.field, go_sem, asAgg]
attribute [local go_sem] field_text

set_option maxRecDepth 100000 in
set_option maxHeartbeats 1000000 in
theorem decodeAll_val (v : Value) (zs : List Int) (w : World) (hT : Tabs w) (B : Nat) (h : Sees w B .u8 v zs) (hB : B ≤ w.heap.size) (l : zs.length < 1000000000) (hw : ∀ n ∈ zs, (Lit.int .u8 n).wf = true) (_ : Caps v) :
    Calls Tryd.prog 10 #[v] w fun e w' => (∃ u, e = .returned (.agg #[.int .i64 (allC zs), u]) ∧ Own w' w.heap.size w'.heap.size 2 .i64 u (allL zs)) ∧ Below w.heap.size w w' := by
  have HT := Lib.hid hT
  have HS := Lib.hid h
  have HW := Lib.hid hw
  clear hT h hw
  have b0 := (Below.refl w.heap.size w).alloc (Nat.le_refl _) (.cells #[.int .i64 0, .slice none 0 0] 36)
  have k0 := Blk.new w 36 #[.int .i64 0, .slice none 0 0]
  go_enter Tryd.func10, Tryd.ntmps10
  go_wp2_with fail
  refine (decodeChunk_val (.slice none 0 0) [] v zs _ (HT.out.alloc _) w.heap.size ⟨none, 0, rfl, Rd.nil _ _ _⟩ (by simp) (by simp) (by simp) B (HS.out.alloc hB _) (by simp; omega) l HW.out).mono ?_
  rintro e w1 ⟨⟨u1, u2, rfl, o1, o2, dj⟩, b1⟩
  rw [chunk_nil] at *
  obtain ⟨A1, c1, rfl⟩ := o1.form
  obtain ⟨A2, c2, rfl⟩ := o2.form
  have k1 := k0.below b1 k0.lt
  have b2 := below_on b0 b1 (Nat.le_refl _)
  have sz := b2.size
  by_cases g : 600 < zs.length
  · have EC : Hid (allC zs = 2) := Lib.hid (by unfold allC; rw [if_pos g])
    have EL : Hid (allL zs = []) := Lib.hid (by unfold allL; rw [if_pos g])
    rw [EC.out]
    have kc := Blk.new w1 32 #[.int .i64 2, .slice A1 (chunkT [] zs).length c1, .slice A2 (chunkR [] zs).length c2]
    have hc0 := kc.cell 0 (u := .int .i64 2) rfl
    have k2 := k1.alloc (.cells #[.int .i64 2, .slice A1 (chunkT [] zs).length c1, .slice A2 (chunkR [] zs).length c2] 32)
    have hd0 := k2.cell 0 (u := .int .i64 0) rfl
    have hd1 := k2.cell 1 (u := .slice none 0 0) rfl
    have hf0 := k2.frozen 0
    have hf1 := k2.frozen 1
    have b3 := b2.alloc b2.size (.cells #[.int .i64 2, .slice A1 (chunkT [] zs).length c1, .slice A2 (chunkR [] zs).length c2] 32)
    go_wp2
    refine bodyPost_ret (v := .agg #[.int .i64 2, .slice none 0 0]) (by simp [results, Tryd.results10, go_sem, hd0, hd1]) rfl ?_
    rw [EC.out, EL.out]
    exact ⟨⟨_, rfl, Own.nil _ _ _ _ _⟩, (b3.setCell (by simp) _).setCell (by simp) _⟩
  · have EC : Hid (allC zs = 0) := Lib.hid (by unfold allC; rw [if_neg g])
    have EL : Hid (allL zs = allT zs) := Lib.hid (by unfold allL; rw [if_neg g])
    obtain ⟨D, hD⟩ : ∃ D, Hid (D = decode zs) := ⟨_, Lib.hid rfl⟩
    have ET : Hid (chunkT [] zs = D.1) := Lib.hid (by unfold chunkT; rw [if_pos (by rw [chunk_nil, EC.out]), hD.out]; rfl)
    have ER : Hid (chunkR [] zs = D.2) := Lib.hid (by unfold chunkR; rw [if_pos (by rw [chunk_nil, EC.out]), hD.out]; rfl)
    have dl := decode_len zs
    rw [← hD.out] at dl
    have EF : Hid (allL zs = D.1 ++ flushT D.2) := Lib.hid (by rw [EL.out, hD.out, decode_carryless zs (bytes_of HW.out)]; rfl)
    have EB : Hid (∀ n ∈ D.2, (Lit.int .u8 n).wf = true) := Lib.hid (by rw [hD.out]; exact decode_bytes zs HW.out)
    rw [EC.out]
    rw [ET.out] at o1 dj ⊢
    rw [ER.out] at o2 dj ⊢
    have kc := Blk.new w1 32 #[.int .i64 0, .slice A1 D.1.length c1, .slice A2 D.2.length c2]
    have hc0 := kc.cell 0 (u := .int .i64 0) rfl
    have hc1 := kc.cell 1 (u := .slice A1 D.1.length c1) rfl
    have hc2 := kc.cell 2 (u := .slice A2 D.2.length c2) rfl
    have k2 := k1.alloc (.cells #[.int .i64 0, .slice A1 D.1.length c1, .slice A2 D.2.length c2] 32)
    have bc := b2.alloc sz (.cells #[.int .i64 0, .slice A1 D.1.length c1, .slice A2 D.2.length c2] 32)
    have szc := bc.size
    have S1 := Lib.hid (o1.sees.alloc (Nat.le_refl _) (.cells #[.int .i64 0, .slice A1 D.1.length c1, .slice A2 D.2.length c2] 32))
    have S2 := Lib.hid (o2.sees.alloc (Nat.le_refl _) (.cells #[.int .i64 0, .slice A1 D.1.length c1, .slice A2 D.2.length c2] 32))
    have T1 := Lib.hid ((HT.out.on b2).alloc (.cells #[.int .i64 0, .slice A1 D.1.length c1, .slice A2 D.2.length c2] 32))
    have KC := Lib.hid kc
    have K2 := Lib.hid k2
    have BC := Lib.hid bc
    have FL := flushT_len D.2
    clear o1 o2 dj kc k2 bc
    go_wp2_with fail
    generalize hX : w1.alloc (.cells #[.int .i64 0, .slice A1 D.1.length c1, .slice A2 D.2.length c2] 32) = X at *
    have szX : X.heap.size = w1.heap.size + 1 := by rw [← hX]; simp
    clear hX
    go_region_with (first
      | (go_at_call 12; refine (flushCarry_val _ D.2 _ (T1.out.drew _) w1.heap.size (S2.out.drew _) (by simp; omega) (by omega) EB.out).mono ?_; rintro e w2 ⟨⟨x1, x2, rfl, p1, p2, pj⟩, b3⟩; obtain ⟨A3, c3, rfl⟩ := p1.form; obtain ⟨A4, c4, rfl⟩ := p2.form; have b4 := below_of_drew b3; have kc2 := KC.out.below b4 KC.out.lt; have hc1 := kc2.cell 1 (u := .slice A1 D.1.length c1) rfl)
      | (go_at_call 40; refine (concatInt_own w2.heap.size 24 _ _ D.1 (flushT D.2) _ w1.heap.size w2.heap.size (Blk.new w2 _ _) ((S1.out.below b4 (by omega)).alloc (by have := b4.size; omega) _) (p1.sees.alloc (Nat.le_refl _) _) (by have := b4.size; simp; omega) (by simp) (by omega) (by omega)).mono ?_; rintro e w3 ⟨⟨x3, rfl, p3⟩, b5⟩; obtain ⟨A5, c5, rfl⟩ := p3.form; have b6 := below_alloc b5; have k3 := (K2.out.below b4 K2.out.lt).below b6 (by have := K2.out.lt; have := b4.size; omega); have hd0 := k3.cell 0 (u := .int .i64 0) rfl; have hd1 := k3.cell 1 (u := .slice none 0 0) rfl; have hf0 := k3.frozen 0; have hf1 := k3.frozen 1))
    all_goals
      go_wp2
      have b7 := below_on (below_on BC.out b4 (Nat.le_refl _)) b6 (Nat.le_refl _)
      have lq : D.1.length + (flushT D.2).length = (D.1 ++ flushT D.2).length := by simp
      have z4 := b4.size
      refine bodyPost_ret (v := .agg #[.int .i64 0, .slice A5 (D.1.length + (flushT D.2).length) c5]) (by simp [results, Tryd.results10, go_sem, hd0, hd1]) rfl ?_
      rw [EC.out, EF.out, lq]
      refine ⟨⟨_, rfl, ?_⟩, (b7.setCell (by simp) _).setCell (by simp) _⟩
      rw [World.size_alloc] at p3
      exact ((p3.set _ _ (.inl (by simp; omega))).set _ _ (.inl (by simp; omega))).more (by omega) (by simp)
end Go.Proofs.YtmkpbfghnkmcgaaDoor
