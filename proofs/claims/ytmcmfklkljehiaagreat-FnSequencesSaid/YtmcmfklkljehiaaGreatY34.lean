/- The laws' copies of sequences, and how much they hold. -/
import Derived.Test.YtmcmfklkljehiaaGreatY15
import Derived.Test.YtmcmfklkljehiaaGreatY33
namespace Go.Proofs.YtmcmfklkljehiaaGreat
open Go.RowKit

set_option maxRecDepth 100000 in
set_option maxHeartbeats 1000000 in
theorem drawSequencesOf_any (A : Option Addr) (c : Nat) (zs : List Int) (w : World) (hr : Rd w w.heap.size A (nums .u8 zs)) (hb : ∀ b ∈ zs, isByte b) (hl : zs.length < 2000000) :
    Calls Tryz.prog 5 #[.slice A zs.length c] w fun e w' => (∃ v b, e = .returned (.tuple #[v, .int .i64 b]) ∧ ∃ ts, Own w' w.heap.size w'.heap.size 2 .i64 v ts ∧ ts.length ≤ 700 ∧ Drawn ts ∧ -1 ≤ b ∧ b ≤ 2) ∧ Below w.heap.size w w' := by
  go_enter Tryz.func5, Tryz.ntmps5
  go_wp2_with fail
  refine (l1Source_any A c zs w hr).mono ?_
  rintro e w1 ⟨rfl, hs1, b1⟩
  have z1 := b1.size
  go_wp2_with fail
  refine (l4Para_any w.heap.size zs w1 hs1 hb hl).mono ?_
  rintro e w2 ⟨⟨v, b, rfl, ts, ot, lt, dt, b0, b3⟩, o2⟩
  have bo := Lib.hid (out_new b1 o2)
  have OT := Lib.hid ot
  have DT := Lib.hid dt
  obtain ⟨A2, c2, rfl⟩ := ot.form
  clear o2 hs1 b1 ot dt
  go_wp2
  go_ret2
  exact ⟨⟨_, b, rfl, ts, OT.out.more (by omega) (Nat.le_refl _), lt, DT.out, b0, b3⟩, bo.out⟩
set_option maxRecDepth 100000 in
set_option maxHeartbeats 1000000 in
theorem drawSideOf_any (A : Option Addr) (c : Nat) (zs : List Int) (w : World) (hr : Rd w w.heap.size A (nums .u8 zs)) (hb : ∀ b ∈ zs, isByte b) (hl : zs.length < 2000000) :
    Calls Tryz.prog 8 #[.slice A zs.length c] w fun e w' => (∃ n, e = .returned (.int .i64 n) ∧ -2 ≤ n ∧ n ≤ 125) ∧ Below w.heap.size w w' := by
  have pr := Lib.hid ((by decide : ∀ y ∈ ([0, 1, 2, 125, -1, -2] : List Int), -2 ≤ y ∧ y ≤ 125) _ (pick_in [0, 1, 2, 125, -1, -2] zs 0 6 rfl (by omega)))
  go_enter Tryz.func8, Tryz.ntmps8
  go_wp2_with fail
  refine (l1Source_any A c zs w hr).mono ?_
  rintro e w1 ⟨rfl, hs1, b1⟩
  have z1 := b1.size
  have gl := hs1.lt
  have B1 := Lib.hid b1
  clear b1
  go_wp2_with fail
  refine (l1Pick_any w.heap.size w1.heap.size 6 2 [0, 1, 2, 125, -1, -2] zs 0 _ (Blk.new w1 _ _) (by omega) rfl (by omega) (by omega) (hs1.alloc _) hb hl (by omega)).mono ?_
  rintro e w2 ⟨rfl, hs2, o2⟩
  obtain ⟨D, hD⟩ : ∃ D : Int, Hid (nth [0, 1, 2, 125, -1, -2] (nxt zs 0 ((6 : Nat) : Int)).toNat = D) := ⟨_, Lib.hid rfl⟩
  rw [hD.out] at pr ⊢
  have bo := Lib.hid (out_new B1.out (((Out.refl _ _ w1).alloc (.cells (Array.mk (nums .i64 [0, 1, 2, 125, -1, -2])) 2)).trans o2))
  clear o2 hs2 hs1 B1
  go_wp2
  go_ret
  exact ⟨⟨D, rfl, pr.out.1, pr.out.2⟩, bo.out⟩
end Go.Proofs.YtmcmfklkljehiaaGreat

namespace Go.Proofs.YtmcmfklkljehiaaGreat
open Go.RowKit

theorem info_sq : (Tryz.prog.info? 46).map (fun i => (i.zero, i.size, i.bytes)) = some (some (.agg #[.slice none 0 0, .int .i64 0, .int .i64 0, .int .i64 0]), 4, 48) := by kernel_rfl

/-- a slice of a new block stands in a cell -/
theorem OwnC.place {w : World} {lo mid hi : Nat} {tt : TypeId} {size n g cap : Nat} {us : List Value} {cs : Nat → Option Cont} (h : OwnC w lo mid tt size (.slice (some ⟨g, 0, none⟩) n cap) n us cs) (hm : mid ≤ hi) (hl : lo ≤ mid) (k : Nat) (hk : k < us.length) {u : Value} {c : Cont} (ho : Own w mid hi c.t c.kd u c.zs) :
    OwnC (w.setCell ⟨g, k, none⟩ u) lo hi tt size (.slice (some ⟨g, 0, none⟩) n cap) n (us.set k u) (fun j => if j = k then some c else cs j) := by
  have st := h.row.stored k u
  have gv := h.vlt g rfl
  have far : ∀ (x : Value), (∀ b, x.ownBlock = some b → b < mid) → x.ownBlock = none ∨ x.ownBlock ≠ u.ownBlock := by
    intro x hx
    by_cases hn : x.ownBlock = none
    · exact .inl hn
    · refine .inr fun e => ?_
      obtain ⟨b, hb⟩ := Option.ne_none_iff_exists'.1 hn
      have h1 := hx b hb
      have h2 := ho.lt b (by rw [← e, hb])
      omega
  have uv : u.ownBlock = none ∨ u.ownBlock ≠ some g := by
    by_cases hn : u.ownBlock = none
    · exact .inl hn
    · refine .inr fun e => ?_
      have h2 := ho.lt g e
      omega
  have get : ∀ (j : Nat) (x : Value), (us.set k u)[j]? = some x → (j = k ∧ x = u) ∨ (j ≠ k ∧ us[j]? = some x) := by
    intro j x hx
    by_cases e : j = k
    · subst e
      rw [List.getElem?_set_self hk] at hx
      injection hx with hx
      exact .inl ⟨rfl, hx.symm⟩
    · rw [List.getElem?_set_ne (by omega)] at hx
      exact .inr ⟨e, hx⟩
  refine ⟨st.1, fun g' hg => by have := (h.vlt g' hg).2.1; omega, ?_, ?_, ?_, ?_⟩
  · intro j c' hj
    by_cases e : j = k
    · subst e
      rw [if_pos rfl] at hj
      injection hj with hj
      subst hj
      exact ⟨u, by rw [List.getElem?_set_self hk], own_more (ho.1.kept st.2 uv) hl, ho.2⟩
    · rw [if_neg e] at hj
      obtain ⟨x, h1, h2⟩ := h.each j c' hj
      exact ⟨x, by rw [List.getElem?_set_ne (by omega)]; exact h1, h2.1.kept st.2 (h.off j x h1), fun b hb => by have := h2.2 b hb; omega⟩
  · intro j x hx hj
    by_cases e : j = k
    · rw [if_pos e] at hj; cases hj
    · rw [if_neg e] at hj
      rcases get j x hx with ⟨e2, _⟩ | ⟨_, h1⟩
      · exact absurd e2 e
      · exact h.bare j x h1 hj
  · intro i j x y hij hx hy
    rcases get i x hx with ⟨e1, rfl⟩ | ⟨e1, h1⟩
    · rcases get j y hy with ⟨e2, rfl⟩ | ⟨e2, h2⟩
      · omega
      · exact own_ne_symm (far y fun b hb => (h.lts j y b h2 hb).2.1)
    · rcases get j y hy with ⟨e2, rfl⟩ | ⟨e2, h2⟩
      · exact far x fun b hb => (h.lts i x b h1 hb).2.1
      · exact h.apart i j x y hij h1 h2
  · intro j x hx
    rcases get j x hx with ⟨_, rfl⟩ | ⟨_, h1⟩
    · exact uv
    · exact h.off j x h1
/-- a whole sequence put in the place of another -/
theorem OwnQ.fill {w : World} {lo mid hi : Nat} {tt t : TypeId} {g n cap : Nat} {qs : List Sq} {us : List Value} (h : OwnQ w lo mid tt t (.slice (some ⟨g, 0, none⟩) n cap) qs us) (hn : n = qs.length) (hm : mid ≤ hi) (hlm : lo ≤ mid) {j : Nat} (hj : j < qs.length) {u : Value} {q : Sq} (ho : Own w mid hi t .i64 u q.places) :
    OwnQ ((((w.setCell ⟨g, j * 4, none⟩ u).setCell ⟨g, j * 4 + 1, none⟩ (.int .i64 q.level)).setCell ⟨g, j * 4 + 2, none⟩ (.int .i64 q.sos)).setCell ⟨g, j * 4 + 3, none⟩ (.int .i64 q.eos)) lo hi tt t (.slice (some ⟨g, 0, none⟩) n cap) (qs.set j q)
      ((((us.set (j * 4) u).set (j * 4 + 1) (.int .i64 q.level)).set (j * 4 + 2) (.int .i64 q.sos)).set (j * 4 + 3) (.int .i64 q.eos)) := by
  subst hn
  have hl := h.len
  have r1 := h.rows.place (c := ⟨t, .i64, q.places⟩) hm hlm (j * 4) (by omega) ho
  have nc : ∀ i, i % 4 ≠ 0 → (fun k => if k = j * 4 then some (⟨t, .i64, q.places⟩ : Cont) else contsQ t qs k) i = none := by
    intro i hi4
    simp only
    rw [if_neg (by omega)]
    unfold contsQ
    rw [if_neg hi4]
  have r4 := ((r1.put (j * 4 + 1) (.int .i64 q.level) (nc _ (by omega)) rfl).put (j * 4 + 2) (.int .i64 q.sos) (nc _ (by omega)) rfl).put (j * 4 + 3) (.int .i64 q.eos) (nc _ (by omega)) rfl
  have e : (fun k => if k = j * 4 then some (⟨t, .i64, q.places⟩ : Cont) else contsQ t qs k) = contsQ t (qs.set j q) := by
    funext k
    by_cases ek : k = j * 4
    · subst ek
      rw [if_pos rfl]
      unfold contsQ
      rw [if_pos (by omega), Nat.mul_div_cancel _ (by omega), List.getElem?_set_self hj]; rfl
    · rw [if_neg ek]
      unfold contsQ
      split
      · rw [List.getElem?_set_ne (by omega)]
      · rfl
  rw [e] at r4
  refine ⟨by rw [List.length_set]; exact r4, fun i hi' => ?_⟩
  rw [List.length_set] at hi'
  by_cases ei : i = j
  · subst ei
    have en : nthQ (qs.set i q) i = q := by unfold nthQ; rw [List.getElem?_set_self hj]; rfl
    rw [en]
    refine ⟨?_, ?_, ?_⟩
    · rw [List.getElem?_set_ne (by omega), List.getElem?_set_ne (by omega), List.getElem?_set_self (by simp; omega)]
    · rw [List.getElem?_set_ne (by omega), List.getElem?_set_self (by simp; omega)]
    · rw [List.getElem?_set_self (by simp; omega)]
  · have en : nthQ (qs.set j q) i = nthQ qs i := by unfold nthQ; rw [List.getElem?_set_ne (by omega)]
    rw [en]
    obtain ⟨s1, s2, s3⟩ := h.sc i hi'
    refine ⟨?_, ?_, ?_⟩
    · rw [List.getElem?_set_ne (by omega), List.getElem?_set_ne (by omega), List.getElem?_set_ne (by omega), List.getElem?_set_ne (by omega)]; exact s1
    · rw [List.getElem?_set_ne (by omega), List.getElem?_set_ne (by omega), List.getElem?_set_ne (by omega), List.getElem?_set_ne (by omega)]; exact s2
    · rw [List.getElem?_set_ne (by omega), List.getElem?_set_ne (by omega), List.getElem?_set_ne (by omega), List.getElem?_set_ne (by omega)]; exact s3
def noSq : Sq := ⟨[], 0, 0, 0⟩
/-- a slice just made -/
theorem madeQ (n i : Nat) (h : i < n * 4) : (madeCells #[Value.slice none 0 0, .int .i64 0, .int .i64 0, .int .i64 0] (n * 4)).toList[i]? = some (if i % 4 = 0 then .slice none 0 0 else .int .i64 0) := by
  have hm : i % 4 = 0 ∨ i % 4 = 1 ∨ i % 4 = 2 ∨ i % 4 = 3 := by omega
  rcases hm with hm | hm | hm | hm <;> simp [madeCells, h, hm]
theorem nthQ_rep (n j : Nat) (h : j < n) : nthQ (List.replicate n noSq) j = noSq := by simp [nthQ, h]
theorem OwnQ.made {w : World} {lo hi : Nat} {tt t : TypeId} {g n cap : Nat} (h : w.ownsRow lo tt 4 (.slice (some ⟨g, 0, none⟩) n cap) n (madeCells #[Value.slice none 0 0, .int .i64 0, .int .i64 0, .int .i64 0] (n * 4)).toList) (hg : g < hi) :
    OwnQ w lo hi tt t (.slice (some ⟨g, 0, none⟩) n cap) (List.replicate n noSq) (madeCells #[Value.slice none 0 0, .int .i64 0, .int .i64 0, .int .i64 0] (n * 4)).toList := by
  have nb : ∀ (k : Nat) (u : Value), (madeCells #[Value.slice none 0 0, .int .i64 0, .int .i64 0, .int .i64 0] (n * 4)).toList[k]? = some u → u.ownBlock = none := by
    intro k u hu
    have hk : k < n * 4 := by
      have := (List.getElem?_eq_some_iff.1 hu).1
      simpa [size_madeCells] using this
    rw [madeQ n k hk] at hu
    injection hu with hu
    subst hu
    split <;> rfl
  refine ⟨⟨by rw [List.length_replicate]; exact h, fun g' hg' => by simp [Value.ownBlock] at hg'; omega, ?_, fun k u hu _ => nb k u hu, fun i j u u' _ hu _ => .inl (nb i u hu), fun k u hu => .inl (nb k u hu)⟩, ?_⟩
  · intro k c hc
    obtain ⟨j, hj, rfl, rfl⟩ := contsQ_some _ _ _ _ hc
    rw [List.length_replicate] at hj
    rw [nthQ_rep n j hj]
    exact ⟨.slice none 0 0, by rw [madeQ n (j * 4) (by omega), if_pos (by omega)], Own.nil _ _ _ _ _⟩
  · intro j hj
    rw [List.length_replicate] at hj
    rw [nthQ_rep n j hj]
    refine ⟨?_, ?_, ?_⟩
    · rw [madeQ n _ (by omega), if_neg (by omega)]; rfl
    · rw [madeQ n _ (by omega), if_neg (by omega)]; rfl
    · rw [madeQ n _ (by omega), if_neg (by omega)]; rfl
/-- the first j of qs, then none -/
def partQ (qs : List Sq) (j : Nat) : List Sq := qs.take j ++ List.replicate (qs.length - j) noSq
theorem partQ_len (qs : List Sq) (j : Nat) (h : j ≤ qs.length) : (partQ qs j).length = qs.length := by simp [partQ]; omega
theorem partQ_step (qs : List Sq) (j : Nat) (h : j < qs.length) : (partQ qs j).set j (nthQ qs j) = partQ qs (j + 1) := by
  have e : qs.take (j + 1) = qs.take j ++ [nthQ qs j] := by
    rw [List.take_succ_eq_append_getElem h]; simp [nthQ, List.getElem?_eq_getElem h]
  unfold partQ
  rw [show qs.length - j = (qs.length - (j + 1)) + 1 by omega, List.replicate_succ, List.set_append_right _ _ (by simp; omega), List.length_take, Nat.min_eq_left (by omega), Nat.sub_self, List.set_cons_zero, e]
  simp
theorem partQ_zero (qs : List Sq) : partQ qs 0 = List.replicate qs.length noSq := by simp [partQ]
theorem partQ_all (qs : List Sq) : partQ qs qs.length = qs := by simp [partQ]

end Go.Proofs.YtmcmfklkljehiaaGreat
