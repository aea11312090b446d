/- Chapter 4: the program's state in memory. No program is named here. -/
import Derived.Test.YtcfnhjpmihngdaaGreatY15
import Derived.Test.YtcfnhjpmihngdaaGreatY07
import Derived.Test.YtcfnhjpmihngdaaGreatY05
import Derived.Deep.RegionLaw
namespace Go.Proofs.YtcfnhjpmihngdaaGreat
open Go.RowKit

/-- what matches matches back -/
structure MInv (st : List Int × List Int) : Prop where
  back : ∀ p : Nat, p < st.1.length → nth st.1 p = -1 ∨ (0 ≤ nth st.1 p ∧ nth st.1 p < st.1.length ∧ nth st.1 p ≠ p ∧ nth st.1 (nth st.1 p).toNat = p)
  open_ : ∀ i, i < st.2.length → nth st.1 (nth st.2 i).toNat = -1
theorem nth_snoc (a : List Int) (z : Int) (k : Nat) (h : k < a.length + 1) : nth (a ++ [z]) k = if k = a.length then z else nth a k := by
  by_cases e : k = a.length
  · subst e; rw [nth_right, if_pos rfl]
  · rw [nth_left _ _ _ (by omega), if_neg e]
theorem MInv.step {st : List Int × List Int} (w : WfO st) (h : MInv st) (k : Int) : MInv (mstep st k) := by
  have plain : ∀ o : List Int, (∀ i, i < o.length → (0 ≤ nth o i ∧ nth o i ≤ st.1.length) ∧ ((nth o i).toNat = st.1.length ∨ nth st.1 (nth o i).toNat = -1)) → MInv (st.1 ++ [-1], o) := by
    intro o ho
    refine ⟨fun p hp => ?_, fun i hi => ?_⟩
    · simp only [List.length_append, List.length_cons, List.length_nil] at hp ⊢
      rw [nth_snoc _ _ _ (by omega)]
      by_cases e : p = st.1.length
      · rw [if_pos e]; exact .inl rfl
      · rw [if_neg e]
        rcases h.back p (by omega) with h1 | ⟨h1, h2, h3, h4⟩
        · exact .inl h1
        · refine .inr ⟨h1, by omega, h3, ?_⟩
          rw [nth_snoc _ _ _ (by omega), if_neg (by omega)]; exact h4
    · have := ho i hi
      show nth (st.1 ++ [-1]) (nth o i).toNat = -1
      rw [nth_snoc _ _ _ (by omega)]
      split
      · rfl
      · rcases this.2 with h1 | h1
        · omega
        · exact h1
  unfold mstep
  split
  · refine plain _ fun i hi => ?_
    simp only [List.length_append, List.length_cons, List.length_nil] at hi
    by_cases e : i < st.2.length
    · rw [nth_left _ _ _ e]
      have := w.lt i e
      exact ⟨by omega, .inr (h.open_ i e)⟩
    · obtain rfl : i = st.2.length := by omega
      rw [nth_right]
      exact ⟨by omega, .inl (by omega)⟩
  · split
    · rename_i h1 h2
      have lst := w.last h2.2
      obtain ⟨x, hx⟩ : ∃ x : Nat, lastOf st.2 = (x : Int) := ⟨(lastOf st.2).toNat, by omega⟩
      rw [hx] at lst ⊢
      have lx : x < st.1.length := by omega
      have ho := h.open_ (st.2.length - 1) (by omega)
      rw [show nth st.2 (st.2.length - 1) = lastOf st.2 from rfl, hx] at ho
      simp only [Int.toNat_natCast] at ho ⊢
      have get : ∀ q : Nat, q < st.1.length + 1 → nth (st.1.set x (st.1.length : Int) ++ [(x : Int)]) q = if q = st.1.length then (x : Int) else if x = q then (st.1.length : Int) else nth st.1 q := by
        intro q hq
        rw [nth_snoc _ _ _ (by simpa using hq), List.length_set]
        split
        · rfl
        · rw [nth_set _ _ _ _ lx]
      refine ⟨fun p hp => ?_, fun i hi => ?_⟩
      · simp only [List.length_append, List.length_cons, List.length_nil, List.length_set] at hp ⊢
        rw [get p (by omega)]
        by_cases e : p = st.1.length
        · rw [if_pos e]
          refine .inr ⟨by omega, by omega, by omega, ?_⟩
          simp only [Int.toNat_natCast]
          rw [get x (by omega), if_neg (by omega), if_pos rfl]
          omega
        · rw [if_neg e]
          by_cases e2 : x = p
          · rw [if_pos e2]
            refine .inr ⟨by omega, by omega, by omega, ?_⟩
            simp only [Int.toNat_natCast]
            rw [get _ (by omega), if_pos rfl, e2]
          · rw [if_neg e2]
            rcases h.back p (by omega) with g1 | ⟨g1, g2, g3, g4⟩
            · exact .inl g1
            · refine .inr ⟨g1, by omega, g3, ?_⟩
              rw [get _ (by omega), if_neg (by omega)]
              by_cases e3 : x = (nth st.1 p).toNat
              · rw [← e3] at g4; omega
              · rw [if_neg e3]; exact g4
      · simp only [List.length_dropLast] at hi
        rw [nth_dropLast _ _ (by omega)]
        have l1 := w.lt i (by omega)
        have l2 := w.rise i (st.2.length - 1) (by omega) (by omega)
        rw [show nth st.2 (st.2.length - 1) = lastOf st.2 from rfl, hx] at l2
        show nth (st.1.set x (st.1.length : Int) ++ [(x : Int)]) _ = -1
        rw [get _ (by omega), if_neg (by omega), if_neg (by omega)]
        exact h.open_ i (by omega)
    · exact plain _ fun i hi => ⟨by have := w.lt i hi; omega, .inr (h.open_ i hi)⟩
theorem foldl_inv : ∀ (l : List Int) (st : List Int × List Int), WfO st → MInv st → MInv (l.foldl mstep st)
  | [], _, _, h => h
  | k :: l, _, w, h => foldl_inv l _ (w.step k) (h.step w k)
theorem match_back (ks : List Int) (p : Nat) (hp : p < ks.length) : nth (matchN ks) p = -1 ∨ (0 ≤ nth (matchN ks) p ∧ nth (matchN ks) p < ks.length ∧ nth (matchN ks) p ≠ p ∧ nth (matchN ks) (nth (matchN ks) p).toNat = p) := by
  have h := foldl_inv ks ([], []) WfO.nil ⟨fun p hp => by simp at hp, fun i hi => by simp at hi⟩
  have := h.back p (by rw [show (ks.foldl mstep ([], [])).1 = matchN ks from rfl, matchN_len]; exact hp)
  rw [show (ks.foldl mstep ([], [])).1 = matchN ks from rfl, matchN_len] at this
  exact this

/-- the paragraphs are all that is no separator -/
def keepN (zs : List Int) : List Int := zs.filter fun c => classN c != 10
theorem pfold_kept : ∀ (zs : List Int) (s : PSt), (zs.foldl (pstep classN) s).paras.flatten ++ (zs.foldl (pstep classN) s).now = s.paras.flatten ++ s.now ++ keepN zs
  | [], s => by simp [keepN]
  | z :: zs, s => by
    rw [List.foldl_cons, pfold_kept zs]
    unfold pstep keepN
    rw [List.filter_cons]
    by_cases h1 : s.ahead = 13 ∧ z = 10
    · rw [if_pos h1, h1.2]
      simp [class_ten]
    · rw [if_neg h1]
      by_cases h2 : classN z = 10
      · rw [if_pos h2]; simp [h2]
      · rw [if_neg h2]; simp [h2]
theorem paras_kept (zs : List Int) : (parasN classN zs).flatten = keepN zs := by
  have := pfold_kept zs ⟨[], [], -1⟩
  simp only [List.flatten_nil, List.nil_append] at this
  unfold parasN
  split
  · rename_i h
    have e : (prun classN zs).now = [] := List.eq_nil_of_length_eq_zero h
    rw [← this]
    show _ = (prun classN zs).paras.flatten ++ (prun classN zs).now
    rw [e]; simp
  · rw [← this]; simp [prun]
theorem keepN_step (zs : List Int) (k : Nat) (h : k < zs.length) : keepN (zs.take (k + 1)) = keepN (zs.take k) ++ (if classN (nth zs k) != 10 then [nth zs k] else []) := by
  rw [take_nth zs k h]
  unfold keepN
  rw [List.filter_append, List.filter_cons]
  split <;> simp_all
theorem keepN_len (zs : List Int) : (keepN zs).length ≤ zs.length := List.length_filter_le _ _
theorem flat_step5 (zss : List (List Int)) (k : Nat) (h : k < zss.length) : (zss.take (k + 1)).flatten = (zss.take k).flatten ++ nthL zss k := by
  have e : zss.take (k + 1) = zss.take k ++ [nthL zss k] := by
    rw [List.take_succ_eq_append_getElem h]; simp [nthL, List.getElem?_eq_getElem h]
  rw [e]; simp
theorem flat_len (zss : List (List Int)) : zss.flatten.length = total zss := by simp [total, List.length_flatten]
def flatN (zss : List (List Int)) (k : Nat) : List Int := (zss.take k).flatten
theorem flatN_zero (zss : List (List Int)) : flatN zss 0 = [] := by simp [flatN]
theorem flatN_step (zss : List (List Int)) (k : Nat) (h : k < zss.length) : flatN zss (k + 1) = flatN zss k ++ nthL zss k := flat_step5 zss k h
theorem flatN_all (zss : List (List Int)) (k : Nat) (h : zss.length ≤ k) : flatN zss k = zss.flatten := by unfold flatN; rw [List.take_of_length_le h]
theorem flatN_len (zss : List (List Int)) (k : Nat) : (flatN zss k).length ≤ total zss := by
  unfold flatN
  conv => rhs; rw [← flat_len, ← List.take_append_drop k zss, List.flatten_append, List.length_append]
  omega
end Go.Proofs.YtcfnhjpmihngdaaGreat

namespace Go.Proofs.YtcfnhjpmihngdaaGreat
open Go.RowKit Go.Maps

/-- only blocks of S have turned, and new ones -/
structure Fr (S : Nat → Prop) (w w' : World) : Prop where
  os : w'.os = w.os
  tape : w'.tape = w.tape
  output : w'.output = w.output
  size : w.heap.size ≤ w'.heap.size
  block : ∀ k, k < w.heap.size → ¬ S k → w'.heap[k]? = w.heap[k]?
theorem Fr.refl (S : Nat → Prop) (w : World) : Fr S w w := ⟨rfl, rfl, rfl, Nat.le_refl _, fun _ _ _ => rfl⟩
theorem Fr.trans {S : Nat → Prop} {a b c : World} (h : Fr S a b) (k : Fr S b c) : Fr S a c :=
  ⟨k.os.trans h.os, k.tape.trans h.tape, k.output.trans h.output, Nat.le_trans h.size k.size, fun i hi hn => (k.block i (Nat.lt_of_lt_of_le hi h.size) hn).trans (h.block i hi hn)⟩
theorem Fr.of_below {S : Nat → Prop} {w w' : World} (h : Below w.heap.size w w') : Fr S w w' := ⟨h.os, h.tape, h.output, h.size, fun k hk _ => h.block k hk⟩
theorem Fr.grown {S : Nat → Prop} {w w' : World} {b : Option Nat} (h : w.grownBy w' b) (hb : ∀ g, b = some g → S g) : Fr S w w' :=
  ⟨h.os, h.tape, h.output, h.size, fun k hk hn => h.block k hk (fun e => hn (hb k e.symm))⟩
theorem Fr.set {S : Nat → Prop} (w : World) (p : Addr) (u : Value) (hp : S p.block) : Fr S w (w.setCell p u) :=
  ⟨rfl, rfl, rfl, by simp, fun k _ hn => heap_setCell_other w p k u (fun e => hn (e ▸ hp))⟩
theorem Fr.alloc {S : Nat → Prop} (w : World) (o : Obj) : Fr S w (w.alloc o) := ⟨rfl, rfl, rfl, by simp, fun k hk _ => Below.heap_alloc w o k hk⟩
theorem Fr.below {S : Nat → Prop} {w w' : World} {B : Nat} (h : Fr S w w') (hB : B ≤ w.heap.size) (hS : ∀ k, k < B → ¬ S k) : Below B w w' :=
  ⟨h.os, h.tape, h.output, h.size, fun k hk => h.block k (by omega) (hS k hk)⟩
/-- every block from a world's end on may turn -/
def Open (S : Nat → Prop) (w : World) : Prop := ∀ k, w.heap.size ≤ k → S k
theorem Open.on {S : Nat → Prop} {w w' : World} (h : Open S w) (hs : w.heap.size ≤ w'.heap.size) : Open S w' := fun k hk => h k (by omega)
theorem Rd.fr {S : Nat → Prop} {w w' : World} {B : Nat} {A : Option Addr} {xs : List Value} (h : Rd w B A xs) (hf : Fr S w w') (hB : B ≤ w.heap.size) (hS : ∀ k, k < B → ¬ S k) : Rd w' B A xs :=
  h.below (hf.below hB hS) (Nat.le_refl _)

/-- the cells of a stack -/
def tcells (l : List Tier) : List Value := l.flatMap fun e => [.int .i64 e.lev, .int .i64 e.way, .bool e.iso]
theorem tcells_len (l : List Tier) : (tcells l).length = l.length * 3 := by
  induction l with
  | nil => rfl
  | cons e l ih =>
    have : tcells (e :: l) = [.int .i64 e.lev, .int .i64 e.way, .bool e.iso] ++ tcells l := rfl
    rw [this, List.length_append, ih]; simp; omega
theorem tcells_app (a b : List Tier) : tcells (a ++ b) = tcells a ++ tcells b := by simp [tcells]
theorem tcells_one (e : Tier) : tcells [e] = [.int .i64 e.lev, .int .i64 e.way, .bool e.iso] := rfl
theorem tcells_cell (l : List Tier) : ∀ u ∈ tcells l, u.oneCell' = true := by
  intro u hu
  simp only [tcells, List.mem_flatMap, List.mem_cons, List.not_mem_nil, or_false] at hu
  obtain ⟨e, _, rfl | rfl | rfl⟩ := hu <;> rfl
theorem tcells_top (l : List Tier) (m : Nat) (h : l.length = m + 1) : (tcells l)[m * 3]? = some (.int .i64 (topT l).lev) ∧ (tcells l)[m * 3 + 1]? = some (.int .i64 (topT l).way) ∧ (tcells l)[m * 3 + 2]? = some (.bool (topT l).iso) := by
  have s := split_last l (by omega)
  have hd : (tcells l.dropLast).length = m * 3 := by rw [tcells_len, List.length_dropLast, h]; rfl
  rw [s, tcells_app, tcells_one, ← s]
  refine ⟨?_, ?_, ?_⟩
  · rw [List.getElem?_append_right (by omega), hd]; simp
  · rw [List.getElem?_append_right (by omega), hd, show m * 3 + 1 - m * 3 = 1 by omega]; rfl
  · rw [List.getElem?_append_right (by omega), hd, show m * 3 + 2 - m * 3 = 2 by omega]; rfl

/-- an owned row and where it lies: in S, and not in g -/
def Row (w : World) (S : Nat → Prop) (g : Nat) (t : TypeId) (size : Nat) (v : Value) (n : Nat) (xs : List Value) : Prop :=
  w.ownsRow 0 t size v n xs ∧ ∀ b, v.ownBlock = some b → S b ∧ b ≠ g
section
variable {w w' : World} {S : Nat → Prop} {g : Nat} {t : TypeId} {size : Nat} {v u : Value} {n : Nat} {xs : List Value}
theorem drew_below (w : World) : Below w.heap.size w w.drew := ⟨rfl, rfl, rfl, Nat.le_refl _, fun _ _ => rfl⟩
theorem Row.below (h : Row w S g t size v n xs) (hb : Below w.heap.size w w') : Row w' S g t size v n xs := ⟨own_below h.1 hb, h.2⟩
theorem Row.alloc (h : Row w S g t size v n xs) (o : Obj) : Row (w.alloc o) S g t size v n xs := ⟨h.1.alloc o, h.2⟩
theorem Row.form (h : Row w S g t size v n xs) : ∃ A c, v = .slice A n c := own_form h.1
theorem Row.addr (h : Row w S g t size v n xs) (hn : 0 < n) : ∃ b c, v = .slice (some ⟨b, 0, none⟩) n c ∧ S b ∧ b ≠ g := by
  rcases h.1.2 with ⟨_, h0⟩ | ⟨b, cap, _, h1, _, _⟩
  · omega
  · exact ⟨b, cap, h1, h.2 b (by rw [h1]; rfl)⟩
theorem Row.cap {A : Option Addr} {c : Nat} (h : Row w S g t size (.slice A n c) n xs) : n ≤ c ∧ c ≤ maxLen := own_cap h.1
theorem Row.nil (w : World) (S : Nat → Prop) (g : Nat) (t : TypeId) (size : Nat) : Row w S g t size (.slice none 0 0) 0 [] := ⟨World.ownsRow_nil _ _ _ _, by simp [Value.ownBlock]⟩
/-- a row over a step that turns another row -/
theorem Row.grown {b : Option Nat} (h : Row w S g t size v n xs) (hg : w.grownBy w' b) (hd : v.ownBlock = none ∨ v.ownBlock ≠ b) : Row w' S g t size v n xs := ⟨h.1.kept hg hd, h.2⟩
/-- a row over a store into the state's own block -/
theorem Row.set (h : Row w S g t size v n xs) (i : Nat) (u : Value) : Row (w.setCell ⟨g, i, none⟩ u) S g t size v n xs := by
  refine ⟨⟨h.1.1, ?_⟩, h.2⟩
  rcases h.1.2 with hn | ⟨b, cap, cur, rfl, hb, hg, rest⟩
  · exact .inl hn
  · have hne := (h.2 b rfl).2
    exact .inr ⟨b, cap, cur, rfl, hb, by rw [heap_setCell_other w ⟨g, i, none⟩ b u hne]; exact hg, rest⟩
/-- what append leaves is a row -/
theorem Row.after {m : Nat} {ys : List Value} (h : Row w S g t size v n xs) (hO : Open S w) (hgl : g < w.heap.size) (ho : w'.ownsRow 0 t size u m ys) (ha : u.ownBlock = v.ownBlock ∨ u.ownBlock = some w.heap.size) : Row w' S g t size u m ys := by
  refine ⟨ho, fun b hb => ?_⟩
  rcases ha with e | e
  · exact h.2 b (by rw [← e]; exact hb)
  · rw [hb] at e
    injection e with e
    subst e
    exact ⟨hO _ (Nat.le_refl _), by omega⟩
theorem Row.lt (h : Row w S g t size v n xs) : ∀ b, v.ownBlock = some b → b < w.heap.size := fun b hb => (h.1.lt b hb).2
end
/-- two rows lie apart -/
def Apart (v u : Value) : Prop := v.ownBlock = none ∨ v.ownBlock ≠ u.ownBlock
theorem Apart.symm {v u : Value} (h : Apart v u) : Apart u v := own_ne_symm h
theorem Apart.after {w : World} {v u v' : Value} (h : Apart v u) (hu : ∀ b, u.ownBlock = some b → b < w.heap.size) (ha : v'.ownBlock = v.ownBlock ∨ v'.ownBlock = some w.heap.size) : Apart v' u := by
  rcases ha with e | e
  · unfold Apart at *; rw [e]; exact h
  · refine .inr fun e2 => ?_
    rw [e] at e2
    have := hu _ e2.symm
    omega
theorem Apart.block {v v' u : Value} (h : Apart v u) (e : v'.ownBlock = v.ownBlock) : Apart v' u := by unfold Apart at *; rw [e]; exact h

/-- the row of a stack, one taken off -/
theorem Row.pop {w : World} {S : Nat → Prop} {g : Nat} {t : TypeId} {l : List Tier} {m b c : Nat} (h : Row w S g t 3 (.slice (some ⟨b, 0, none⟩) (m + 1) c) (m + 1) (tcells l)) (hl : l.length = m + 1) :
    Row w S g t 3 (.slice (some ⟨b, 0, none⟩) m c) m (tcells l.dropLast) := by
  refine ⟨?_, h.2⟩
  have s := split_last l (by omega)
  have hd : (tcells l.dropLast).length = m * 3 := by rw [tcells_len, List.length_dropLast, hl]; rfl
  rcases h.1.2 with ⟨h0, _⟩ | ⟨g', cap', cur, h', hb, hg, hnc, hcm, hcs, htake⟩
  · simp at h0
  · simp only [Value.slice.injEq, Option.some.injEq, Addr.mk.injEq, and_true, true_and] at h'
    obtain ⟨rfl, rfl⟩ := h'
    refine ⟨hd, .inr ⟨b, c, cur, rfl, hb, hg, by omega, hcm, hcs, ?_⟩⟩
    have e2 : (cur.toList.take ((m + 1) * 3)).take (m * 3) = (tcells l).take (m * 3) := by rw [htake]
    rw [List.take_take, Nat.min_eq_left (by omega)] at e2
    rw [e2, s, tcells_app, List.take_left' hd, ← s]
theorem Row.topcells {w : World} {S : Nat → Prop} {g : Nat} {t : TypeId} {l : List Tier} {m b c : Nat} (h : Row w S g t 3 (.slice (some ⟨b, 0, none⟩) (m + 1) c) (m + 1) (tcells l)) (hl : l.length = m + 1) :
    w.cell? ⟨b, m * 3, none⟩ = some (.int .i64 (topT l).lev) ∧ w.cell? ⟨b, m * 3 + 1, none⟩ = some (.int .i64 (topT l).way) ∧ w.cell? ⟨b, m * 3 + 2, none⟩ = some (.bool (topT l).iso) := by
  have := tcells_top l m hl
  refine ⟨?_, ?_, ?_⟩
  · rw [h.1.cellAt _ (by omega)]; exact this.1
  · rw [h.1.cellAt _ (by omega)]; exact this.2.1
  · rw [h.1.cellAt _ (by omega)]; exact this.2.2

/-- the model's state -/
structure SSt (w : World) (S : Nat → Prop) (g : Nat) (T tE tI : TypeId) (s : Tell) (L C : List Int) (v1 v2 v3 : Value) : Prop where
  blk : Blk w g T #[v1, .int .i64 s.li, .int .i64 s.le, .int .i64 s.is, v2, v3]
  ing : S g
  r1 : Row w S g tE 3 v1 s.stk.length (tcells s.stk)
  r2 : Row w S g tI 1 v2 L.length (nums .i64 L)
  r3 : Row w S g tI 1 v3 C.length (nums .i64 C)
  d12 : Apart v1 v2
  d13 : Apart v1 v3
  d23 : Apart v2 v3
section
variable {w w' : World} {S : Nat → Prop} {g : Nat} {T tE tI : TypeId} {s : Tell} {L C : List Int} {v1 v2 v3 : Value}
theorem SSt.below (h : SSt w S g T tE tI s L C v1 v2 v3) (hb : Below w.heap.size w w') : SSt w' S g T tE tI s L C v1 v2 v3 :=
  ⟨h.blk.below hb h.blk.lt, h.ing, h.r1.below hb, h.r2.below hb, h.r3.below hb, h.d12, h.d13, h.d23⟩
theorem SSt.alloc (h : SSt w S g T tE tI s L C v1 v2 v3) (o : Obj) : SSt (w.alloc o) S g T tE tI s L C v1 v2 v3 := h.below ((Below.refl _ _).alloc (Nat.le_refl _) o)
theorem SSt.drew (h : SSt w S g T tE tI s L C v1 v2 v3) (n : Nat) : SSt (w.drewN n) S g T tE tI s L C v1 v2 v3 := h.below (below_draw w n _)
/-- a number of it turns -/
theorem SSt.num (h : SSt w S g T tE tI s L C v1 v2 v3) (i : Nat) (z : Nat) (s' : Tell) (hs : s'.stk = s.stk)
    (hc : #[v1, .int .i64 s'.li, .int .i64 s'.le, .int .i64 s'.is, v2, v3] = #[v1, .int .i64 s.li, .int .i64 s.le, .int .i64 s.is, v2, v3].setIfInBounds i (.int .i64 z)) :
    SSt (w.setCell ⟨g, i, none⟩ (.int .i64 z)) S g T tE tI s' L C v1 v2 v3 := by
  refine ⟨?_, h.ing, ?_, h.r2.set _ _, h.r3.set _ _, h.d12, h.d13, h.d23⟩
  · rw [hc]; exact h.blk.set i _
  · rw [hs]; exact h.r1.set _ _
/-- one more on the stack -/
theorem SSt.push (h : SSt w S g T tE tI s L C v1 v2 v3) (hO : Open S w) {u : Value} (e : Tier) (ho : w'.ownsRow 0 tE 3 u (s.stk.length + 1) (tcells s.stk ++ [.int .i64 e.lev, .int .i64 e.way, .bool e.iso])) (hg : w.grownBy w' v1.ownBlock)
    (ha : u.ownBlock = v1.ownBlock ∨ u.ownBlock = some w.heap.size) : SSt (w'.setCell ⟨g, 0, none⟩ u) S g T tE tI ⟨s.stk ++ [e], s.li, s.le, s.is⟩ L C u v2 v3 := by
  have hk : Blk w' g T #[v1, .int .i64 s.li, .int .i64 s.le, .int .i64 s.is, v2, v3] := (hg.block g h.blk.lt (fun e => (h.r1.2 g e.symm).2 rfl)).trans h.blk
  have r1 : Row w' S g tE 3 u (s.stk ++ [e]).length (tcells (s.stk ++ [e])) := by
    rw [tcells_app, tcells_one, List.length_append]; exact h.r1.after hO h.blk.lt ho ha
  exact ⟨hk.set 0 u, h.ing, r1.set _ _, (h.r2.grown hg h.d12.symm).set _ _, (h.r3.grown hg h.d13.symm).set _ _, h.d12.after h.r2.lt ha, h.d13.after h.r3.lt ha, h.d23⟩
/-- the last one off -/
theorem SSt.pop (h : SSt w S g T tE tI s L C v1 v2 v3) {m b c : Nat} (hm : s.stk.length = m + 1) (hv : v1 = .slice (some ⟨b, 0, none⟩) (m + 1) c) :
    SSt (w.setCell ⟨g, 0, none⟩ (.slice (some ⟨b, 0, none⟩) m c)) S g T tE tI ⟨s.stk.dropLast, s.li, s.le, s.is⟩ L C (.slice (some ⟨b, 0, none⟩) m c) v2 v3 := by
  subst hv
  have r := h.r1
  rw [hm] at r
  have r' := r.pop hm
  have hl : s.stk.dropLast.length = m := by rw [List.length_dropLast, hm]; rfl
  refine ⟨h.blk.set 0 _, h.ing, ?_, h.r2.set _ _, h.r3.set _ _, h.d12.block rfl, h.d13.block rfl, h.d23⟩
  show Row _ S g tE 3 _ s.stk.dropLast.length _
  rw [hl]; exact r'.set _ _
/-- a level more -/
theorem SSt.appL (h : SSt w S g T tE tI s L C v1 v2 v3) (hO : Open S w) {u : Value} (z : Int) (ho : w'.ownsRow 0 tI 1 u (L.length + 1) (nums .i64 L ++ [.int .i64 z])) (hg : w.grownBy w' v2.ownBlock)
    (ha : u.ownBlock = v2.ownBlock ∨ u.ownBlock = some w.heap.size) : SSt (w'.setCell ⟨g, 4, none⟩ u) S g T tE tI s (L ++ [z]) C v1 u v3 := by
  have hk : Blk w' g T #[v1, .int .i64 s.li, .int .i64 s.le, .int .i64 s.is, v2, v3] := (hg.block g h.blk.lt (fun e => (h.r2.2 g e.symm).2 rfl)).trans h.blk
  have r2 : Row w' S g tI 1 u (L ++ [z]).length (nums .i64 (L ++ [z])) := by
    rw [show nums .i64 (L ++ [z]) = nums .i64 L ++ [.int .i64 z] by simp [nums], List.length_append]; exact h.r2.after hO h.blk.lt ho ha
  exact ⟨hk.set 4 u, h.ing, (h.r1.grown hg h.d12).set _ _, r2.set _ _, (h.r3.grown hg h.d23.symm).set _ _, (h.d12.symm.after h.r1.lt ha).symm, h.d13, h.d23.after h.r3.lt ha⟩
/-- a class more -/
theorem SSt.appC (h : SSt w S g T tE tI s L C v1 v2 v3) (hO : Open S w) {u : Value} (z : Int) (ho : w'.ownsRow 0 tI 1 u (C.length + 1) (nums .i64 C ++ [.int .i64 z])) (hg : w.grownBy w' v3.ownBlock)
    (ha : u.ownBlock = v3.ownBlock ∨ u.ownBlock = some w.heap.size) : SSt (w'.setCell ⟨g, 5, none⟩ u) S g T tE tI s L (C ++ [z]) v1 v2 u := by
  have hk : Blk w' g T #[v1, .int .i64 s.li, .int .i64 s.le, .int .i64 s.is, v2, v3] := (hg.block g h.blk.lt (fun e => (h.r3.2 g e.symm).2 rfl)).trans h.blk
  have r3 : Row w' S g tI 1 u (C ++ [z]).length (nums .i64 (C ++ [z])) := by
    rw [show nums .i64 (C ++ [z]) = nums .i64 C ++ [.int .i64 z] by simp [nums], List.length_append]; exact h.r3.after hO h.blk.lt ho ha
  exact ⟨hk.set 5 u, h.ing, (h.r1.grown hg h.d13).set _ _, (h.r2.grown hg h.d23).set _ _, r3.set _ _, h.d12, (h.d13.symm.after h.r1.lt ha).symm, (h.d23.symm.after h.r2.lt ha).symm⟩
/-- a level is put -/
theorem SSt.putL (h : SSt w S g T tE tI s L C v1 v2 v3) {j : Nat} {z : Int} {b : Nat} (hb : v2.ownBlock = some b) (ho : w'.ownsRow 0 tI 1 v2 L.length ((nums .i64 L).set j (.int .i64 z))) (hg : w.grownBy w' (some b)) :
    SSt w' S g T tE tI s (L.set j z) C v1 v2 v3 := by
  have hk : Blk w' g T #[v1, .int .i64 s.li, .int .i64 s.le, .int .i64 s.is, v2, v3] := (hg.block g h.blk.lt (fun e => (h.r2.2 g (hb.trans e.symm)).2 rfl)).trans h.blk
  refine ⟨hk, h.ing, h.r1.grown hg (hb ▸ h.d12), ?_, h.r3.grown hg (hb ▸ h.d23.symm), h.d12, h.d13, h.d23⟩
  exact ⟨by rw [List.length_set, ← nums_set]; exact ho, h.r2.2⟩
/-- a class is put -/
theorem SSt.putC (h : SSt w S g T tE tI s L C v1 v2 v3) {j : Nat} {z : Int} {b : Nat} (hb : v3.ownBlock = some b) (ho : w'.ownsRow 0 tI 1 v3 C.length ((nums .i64 C).set j (.int .i64 z))) (hg : w.grownBy w' (some b)) :
    SSt w' S g T tE tI s L (C.set j z) v1 v2 v3 := by
  have hk : Blk w' g T #[v1, .int .i64 s.li, .int .i64 s.le, .int .i64 s.is, v2, v3] := (hg.block g h.blk.lt (fun e => (h.r3.2 g (hb.trans e.symm)).2 rfl)).trans h.blk
  refine ⟨hk, h.ing, h.r1.grown hg (hb ▸ h.d13), h.r2.grown hg (hb ▸ h.d23), ?_, h.d12, h.d13, h.d23⟩
  exact ⟨by rw [List.length_set, ← nums_set]; exact ho, h.r3.2⟩
end
end Go.Proofs.YtcfnhjpmihngdaaGreat

namespace Go.Proofs.YtcfnhjpmihngdaaGreat
open Go.RowKit Go.Maps

/-- a row over a store into a block that it does not lie in -/
theorem Row.setB {w : World} {S : Nat → Prop} {g : Nat} {t : TypeId} {size : Nat} {v : Value} {n : Nat} {xs : List Value} (h : Row w S g t size v n xs) (B i : Nat) (u : Value) (hB : ∀ b, v.ownBlock = some b → b ≠ B) : Row (w.setCell ⟨B, i, none⟩ u) S g t size v n xs := by
  refine ⟨⟨h.1.1, ?_⟩, h.2⟩
  rcases h.1.2 with hn | ⟨b, cap, cur, rfl, hb, hg, rest⟩
  · exact .inl hn
  · exact .inr ⟨b, cap, cur, rfl, hb, by rw [heap_setCell_other w ⟨B, i, none⟩ b u (hB b rfl)]; exact hg, rest⟩
theorem Blk.setB {w : World} {g : Nat} {t : TypeId} {cs : Array Value} (h : Blk w g t cs) (B i : Nat) (u : Value) (hB : g ≠ B) : Blk (w.setCell ⟨B, i, none⟩ u) g t cs := (heap_setCell_other w ⟨B, i, none⟩ g u hB).trans h

/-- the program's state: the teller's block, the stack's, three owned rows -/
structure ISt (w : World) (S : Nat → Prop) (g gs : Nat) (T TS tE tI : TypeId) (s : Tell) (L C : List Int) (vk vm v1 v2 v3 : Value) : Prop where
  blk : Blk w g T #[vk, vm, .pointer (some ⟨gs, 0, none⟩), .int .i64 s.li, .int .i64 s.le, .int .i64 s.is, .int .i64 0, v2, v3]
  sbk : Blk w gs TS #[v1]
  ing : S g
  ins : S gs
  ne : gs ≠ g
  r1 : Row w S g tE 3 v1 s.stk.length (tcells s.stk)
  r2 : Row w S g tI 1 v2 L.length (nums .i64 L)
  r3 : Row w S g tI 1 v3 C.length (nums .i64 C)
  x1 : ∀ b, v1.ownBlock = some b → b ≠ gs
  x2 : ∀ b, v2.ownBlock = some b → b ≠ gs
  x3 : ∀ b, v3.ownBlock = some b → b ≠ gs
  d12 : Apart v1 v2
  d13 : Apart v1 v3
  d23 : Apart v2 v3
section
variable {w w' : World} {S : Nat → Prop} {g gs : Nat} {T TS tE tI : TypeId} {s : Tell} {L C : List Int} {vk vm v1 v2 v3 : Value}
theorem ISt.below (h : ISt w S g gs T TS tE tI s L C vk vm v1 v2 v3) (hb : Below w.heap.size w w') : ISt w' S g gs T TS tE tI s L C vk vm v1 v2 v3 :=
  ⟨h.blk.below hb h.blk.lt, h.sbk.below hb h.sbk.lt, h.ing, h.ins, h.ne, h.r1.below hb, h.r2.below hb, h.r3.below hb, h.x1, h.x2, h.x3, h.d12, h.d13, h.d23⟩
theorem ISt.alloc (h : ISt w S g gs T TS tE tI s L C vk vm v1 v2 v3) (o : Obj) : ISt (w.alloc o) S g gs T TS tE tI s L C vk vm v1 v2 v3 := h.below ((Below.refl _ _).alloc (Nat.le_refl _) o)
theorem Row.keepB {n : Nat} {size : Nat} {t : TypeId} {v : Value} {xs : List Value} (h : Row w S g t size v n xs) (hk : ∀ b, v.ownBlock = some b → w'.heap[b]? = w.heap[b]?) : Row w' S g t size v n xs := by
  refine ⟨⟨h.1.1, ?_⟩, h.2⟩
  rcases h.1.2 with hn | ⟨b, cap, cur, rfl, hb, hg, rest⟩
  · exact .inl hn
  · exact .inr ⟨b, cap, cur, rfl, hb, by rw [hk b rfl]; exact hg, rest⟩
theorem ISt.keep (h : ISt w S g gs T TS tE tI s L C vk vm v1 v2 v3) (N : Nat) (hN : w.heap.size = N) (hk : ∀ k, k < N → w'.heap[k]? = w.heap[k]?) : ISt w' S g gs T TS tE tI s L C vk vm v1 v2 v3 :=
  ⟨(hk g (hN ▸ h.blk.lt)).trans h.blk, (hk gs (hN ▸ h.sbk.lt)).trans h.sbk, h.ing, h.ins, h.ne, h.r1.keepB fun b hb => hk b (hN ▸ h.r1.lt b hb), h.r2.keepB fun b hb => hk b (hN ▸ h.r2.lt b hb), h.r3.keepB fun b hb => hk b (hN ▸ h.r3.lt b hb), h.x1, h.x2, h.x3, h.d12, h.d13, h.d23⟩
theorem ISt.setB (h : ISt w S g gs T TS tE tI s L C vk vm v1 v2 v3) (X i : Nat) (u : Value) (hg : g ≠ X) (hs : gs ≠ X) (h1 : ∀ b, v1.ownBlock = some b → b ≠ X) (h2 : ∀ b, v2.ownBlock = some b → b ≠ X) (h3 : ∀ b, v3.ownBlock = some b → b ≠ X) :
    ISt (w.setCell ⟨X, i, none⟩ u) S g gs T TS tE tI s L C vk vm v1 v2 v3 :=
  ⟨h.blk.setB X _ _ hg, h.sbk.setB X _ _ hs, h.ing, h.ins, h.ne, h.r1.setB X _ _ h1, h.r2.setB X _ _ h2, h.r3.setB X _ _ h3, h.x1, h.x2, h.x3, h.d12, h.d13, h.d23⟩
theorem ISt.num (h : ISt w S g gs T TS tE tI s L C vk vm v1 v2 v3) (i : Nat) (z : Int) (s' : Tell) (hs : s'.stk = s.stk)
    (hc : #[vk, vm, .pointer (some ⟨gs, 0, none⟩), .int .i64 s'.li, .int .i64 s'.le, .int .i64 s'.is, .int .i64 0, v2, v3] = #[vk, vm, .pointer (some ⟨gs, 0, none⟩), .int .i64 s.li, .int .i64 s.le, .int .i64 s.is, .int .i64 0, v2, v3].setIfInBounds i (.int .i64 z)) :
    ISt (w.setCell ⟨g, i, none⟩ (.int .i64 z)) S g gs T TS tE tI s' L C vk vm v1 v2 v3 := by
  refine ⟨?_, h.sbk.setB g _ _ h.ne, h.ing, h.ins, h.ne, ?_, h.r2.set _ _, h.r3.set _ _, h.x1, h.x2, h.x3, h.d12, h.d13, h.d23⟩
  · rw [hc]; exact h.blk.set i _
  · rw [hs]; exact h.r1.set _ _
theorem ISt.push (h : ISt w S g gs T TS tE tI s L C vk vm v1 v2 v3) (hO : Open S w) {u : Value} (e : Tier) (ho : w'.ownsRow 0 tE 3 u (s.stk.length + 1) (tcells s.stk ++ [.int .i64 e.lev, .int .i64 e.way, .bool e.iso])) (hg : w.grownBy w' v1.ownBlock)
    (ha : u.ownBlock = v1.ownBlock ∨ u.ownBlock = some w.heap.size) : ISt (w'.setCell ⟨gs, 0, none⟩ u) S g gs T TS tE tI ⟨s.stk ++ [e], s.li, s.le, s.is⟩ L C vk vm u v2 v3 := by
  have hk : Blk w' g T #[vk, vm, .pointer (some ⟨gs, 0, none⟩), .int .i64 s.li, .int .i64 s.le, .int .i64 s.is, .int .i64 0, v2, v3] := (hg.block g h.blk.lt (fun e => (h.r1.2 g e.symm).2 rfl)).trans h.blk
  have hsk : Blk w' gs TS #[v1] := (hg.block gs h.sbk.lt (fun e => (h.x1 gs e.symm) rfl)).trans h.sbk
  have r1 : Row w' S g tE 3 u (s.stk ++ [e]).length (tcells (s.stk ++ [e])) := by
    rw [tcells_app, tcells_one, List.length_append]; exact h.r1.after hO h.blk.lt ho ha
  have x1 : ∀ b, u.ownBlock = some b → b ≠ gs := by
    intro b hb
    rcases ha with e | e
    · exact h.x1 b (by rw [← e]; exact hb)
    · rw [hb] at e
      injection e with e
      have := h.sbk.lt
      omega
  exact ⟨hk.setB gs _ _ h.ne.symm, hsk.set 0 u, h.ing, h.ins, h.ne, r1.setB gs _ _ x1, (h.r2.grown hg h.d12.symm).setB gs _ _ h.x2, (h.r3.grown hg h.d13.symm).setB gs _ _ h.x3, x1, h.x2, h.x3,
    h.d12.after h.r2.lt ha, h.d13.after h.r3.lt ha, h.d23⟩
theorem ISt.pop (h : ISt w S g gs T TS tE tI s L C vk vm v1 v2 v3) {m b c : Nat} (hm : s.stk.length = m + 1) (hv : v1 = .slice (some ⟨b, 0, none⟩) (m + 1) c) :
    ISt (w.setCell ⟨gs, 0, none⟩ (.slice (some ⟨b, 0, none⟩) m c)) S g gs T TS tE tI ⟨s.stk.dropLast, s.li, s.le, s.is⟩ L C vk vm (.slice (some ⟨b, 0, none⟩) m c) v2 v3 := by
  subst hv
  have r := h.r1
  rw [hm] at r
  have r' := r.pop hm
  have hl : s.stk.dropLast.length = m := by rw [List.length_dropLast, hm]; rfl
  refine ⟨h.blk.setB gs _ _ h.ne.symm, h.sbk.set 0 _, h.ing, h.ins, h.ne, ?_, h.r2.setB gs _ _ h.x2, h.r3.setB gs _ _ h.x3, h.x1, h.x2, h.x3, h.d12.block rfl, h.d13.block rfl, h.d23⟩
  show Row _ S g tE 3 _ s.stk.dropLast.length _
  rw [hl]; exact r'.setB gs _ _ h.x1
theorem ISt.putL (h : ISt w S g gs T TS tE tI s L C vk vm v1 v2 v3) {j : Nat} {z : Int} {b : Nat} (hb : v2.ownBlock = some b) (ho : w'.ownsRow 0 tI 1 v2 L.length ((nums .i64 L).set j (.int .i64 z))) (hg : w.grownBy w' (some b)) :
    ISt w' S g gs T TS tE tI s (L.set j z) C vk vm v1 v2 v3 := by
  refine ⟨(hg.block g h.blk.lt (fun e => (h.r2.2 g (hb.trans e.symm)).2 rfl)).trans h.blk, (hg.block gs h.sbk.lt (fun e => (h.x2 gs (hb.trans e.symm)) rfl)).trans h.sbk, h.ing, h.ins, h.ne,
    h.r1.grown hg (hb ▸ h.d12), ?_, h.r3.grown hg (hb ▸ h.d23.symm), h.x1, h.x2, h.x3, h.d12, h.d13, h.d23⟩
  exact ⟨by rw [List.length_set, ← nums_set]; exact ho, h.r2.2⟩
theorem ISt.putC (h : ISt w S g gs T TS tE tI s L C vk vm v1 v2 v3) {j : Nat} {z : Int} {b : Nat} (hb : v3.ownBlock = some b) (ho : w'.ownsRow 0 tI 1 v3 C.length ((nums .i64 C).set j (.int .i64 z))) (hg : w.grownBy w' (some b)) :
    ISt w' S g gs T TS tE tI s L (C.set j z) vk vm v1 v2 v3 := by
  refine ⟨(hg.block g h.blk.lt (fun e => (h.r3.2 g (hb.trans e.symm)).2 rfl)).trans h.blk, (hg.block gs h.sbk.lt (fun e => (h.x3 gs (hb.trans e.symm)) rfl)).trans h.sbk, h.ing, h.ins, h.ne,
    h.r1.grown hg (hb ▸ h.d13), h.r2.grown hg (hb ▸ h.d23), ?_, h.x1, h.x2, h.x3, h.d12, h.d13, h.d23⟩
  exact ⟨by rw [List.length_set, ← nums_set]; exact ho, h.r3.2⟩
end
end Go.Proofs.YtcfnhjpmihngdaaGreat
