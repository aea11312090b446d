/- A region that fills a map literal in an order that is drawn: whatever the order, in the end the map holds just the literal's entries. No program is named here. -/
import Derived.Test.YtcfnhjpmihngdaaGreatY06
import Derived.Test.YtcfnhjpmihngdaaGreatY01
import Derived.Deep.RegionWith
import Derived.Deep.RegionHeld
import Derived.Maps.RangeWalk
namespace Go.Proofs.YtcfnhjpmihngdaaGreat
open Go.RowKit

section
variable {w w1 w2 : World} {lo hi : Nat} {tt : TypeId} {size : Nat} {v : Value} {n : Nat} {us : List Value} {cs : Nat → Option Cont}
/-- the k-th slice has been written (and may lie in a new block), and what came of it stands in its place -/
theorem OwnC.swap (h : OwnC w lo hi tt size v n us cs) {k : Nat} {c : Cont} {u u' : Value} {ys : List Int} (hc : cs k = some c) (hu : us[k]? = some u) (hhi : hi ≤ w.heap.size)
    (ho : w1.ownsRow lo c.t 1 u' ys.length (nums c.kd ys)) (hg : w.grownBy w1 u.ownBlock) (ha : u'.ownBlock = u.ownBlock ∨ u'.ownBlock = some w.heap.size)
    (hrow : w2.ownsRow lo tt size v n (us.set k u')) (hg2 : w1.grownBy w2 v.ownBlock) :
    OwnC w2 lo w2.heap.size tt size v n (us.set k u') (fun j => if j = k then some { c with zs := ys } else cs j) := by
  have hk : k < us.length := (List.getElem?_eq_some_iff.1 hu).1
  have s1 := hg.size
  have s2 := hg2.size
  have offv : u'.ownBlock = none ∨ u'.ownBlock ≠ v.ownBlock := by
    rcases ha with e | e
    · rw [e]; exact h.off k u hu
    · rw [e]
      refine .inr fun e2 => ?_
      have := h.vlt _ e2.symm
      omega
  have apartu : ∀ (j : Nat) (x : Value), j ≠ k → us[j]? = some x → x.ownBlock = none ∨ x.ownBlock ≠ u'.ownBlock := by
    intro j x hj hx
    by_cases hn : x.ownBlock = none
    · exact .inl hn
    · rcases ha with e | e
      · rw [e]
        rcases Nat.lt_or_gt_of_ne hj with hlt | hgt
        · exact h.apart j k x u hlt hx hu
        · exact own_ne_symm (h.apart k j u x hgt hu hx)
      · rw [e]
        refine .inr fun e2 => ?_
        have := h.lts j x _ hx e2
        omega
  have get : ∀ (j : Nat) (x : Value), (us.set k u')[j]? = some x → (j = k ∧ x = u') ∨ (j ≠ k ∧ us[j]? = some x) := by
    intro j x hx
    by_cases e : j = k
    · subst e
      rw [List.getElem?_set_self hk] at hx
      injection hx with hx
      exact .inl ⟨rfl, hx.symm⟩
    · rw [List.getElem?_set_ne (by omega)] at hx
      exact .inr ⟨e, hx⟩
  refine ⟨hrow, fun g hgb => (hrow.lt g hgb).2, ?_, ?_, ?_, ?_⟩
  · intro j c' hj
    by_cases e : j = k
    · subst e
      rw [if_pos rfl] at hj
      injection hj with hj
      subst hj
      exact ⟨u', by rw [List.getElem?_set_self hk], ho.kept hg2 offv, fun g hgb => by have := (ho.lt g hgb).2; omega⟩
    · rw [if_neg e] at hj
      obtain ⟨x, h1, h2⟩ := h.each j c' hj
      have hx : x.ownBlock = none ∨ x.ownBlock ≠ u.ownBlock := by
        rcases Nat.lt_or_gt_of_ne e with hlt | hgt
        · exact h.apart j k x u hlt h1 hu
        · exact own_ne_symm (h.apart k j u x hgt hu h1)
      exact ⟨x, by rw [List.getElem?_set_ne (by omega)]; exact h1, (h2.1.kept hg hx).kept hg2 (h.off j x h1), fun g hgb => by have := h2.2 g hgb; omega⟩
  · intro j x hx hj
    by_cases e : j = k
    · rw [if_pos e] at hj; cases hj
    · rw [if_neg e] at hj
      rcases get j x hx with ⟨e2, _⟩ | ⟨_, h1⟩
      · exact absurd e2 e
      · exact h.bare j x h1 hj
  · intro i j x y hij hx hy
    rcases get i x hx with ⟨e1, rfl⟩ | ⟨e1, h1⟩
    · rcases get j y hy with ⟨e2, rfl⟩ | ⟨e2, h2⟩
      · omega
      · exact own_ne_symm (apartu j y e2 h2)
    · rcases get j y hy with ⟨e2, rfl⟩ | ⟨e2, h2⟩
      · exact apartu i x e1 h1
      · exact h.apart i j x y hij h1 h2
  · intro j x hx
    rcases get j x hx with ⟨_, rfl⟩ | ⟨_, h1⟩
    · exact offv
    · exact h.off j x h1
end
/-- the last one of a row of slices of numbers grows by one -/
theorem OwnC.last {w w1 w2 : World} {lo hi : Nat} {tt t : TypeId} {v u u' : Value} {D : List (List Int)} {N : List Int} {us : List Value} (h : OwnC w lo hi tt 1 v (D ++ [N]).length us (contsL t .i64 (D ++ [N]))) (hu : us[D.length]? = some u) (hhi : hi ≤ w.heap.size) {z : Int}
    (ho : w1.ownsRow lo t 1 u' (N.length + 1) (nums .i64 N ++ [.int .i64 z])) (hg : w.grownBy w1 u.ownBlock) (ha : u'.ownBlock = u.ownBlock ∨ u'.ownBlock = some w.heap.size)
    (hrow : w2.ownsRow lo tt 1 v (D ++ [N]).length (us.set D.length u')) (hg2 : w1.grownBy w2 v.ownBlock) :
    OwnC w2 lo w2.heap.size tt 1 v (D ++ [N ++ [z]]).length (us.set D.length u') (contsL t .i64 (D ++ [N ++ [z]])) := by
  have hk : D.length < (D ++ [N]).length := by simp
  have hN : nthL (D ++ [N]) D.length = N := by simp [nthL]
  have hc := contsL_get t .i64 (D ++ [N]) D.length hk
  have := h.swap (ys := N ++ [z]) hc hu hhi (by simpa [nums] using ho) hg ha hrow hg2
  rw [contsL_set t .i64 (D ++ [N]) D.length (N ++ [z]) hk] at this
  have e : (D ++ [N]).set D.length (N ++ [z]) = D ++ [N ++ [z]] := by simp
  rw [e] at this
  have el : (D ++ [N]).length = (D ++ [N ++ [z]]).length := by simp
  rw [← el]
  exact this
/-- the last one lies there -/
theorem OwnC.lastAt {w : World} {lo hi : Nat} {tt t : TypeId} {v : Value} {D : List (List Int)} {N : List Int} {us : List Value} (h : OwnC w lo hi tt 1 v (D ++ [N]).length us (contsL t .i64 (D ++ [N]))) :
    ∃ g c u, v = .slice (some ⟨g, 0, none⟩) (D.length + 1) c ∧ D.length + 1 ≤ c ∧ us[D.length]? = some u ∧ w.cell? ⟨g, D.length, none⟩ = some u ∧ w.ownsRow lo t 1 u N.length (nums .i64 N) ∧ lo ≤ g ∧ g < hi ∧ (u.ownBlock = none ∨ u.ownBlock ≠ some g) := by
  have hk : D.length < (D ++ [N]).length := by simp
  have hN : nthL (D ++ [N]) D.length = N := by simp [nthL]
  obtain ⟨u, h1, h2⟩ := h.each D.length _ (contsL_get t .i64 (D ++ [N]) D.length hk)
  rw [hN] at h2
  have hrow := h.row
  rcases hrow.2 with ⟨_, h0⟩ | ⟨g, cap, cur, hv, hb, hg, hn, hm, hs, htk⟩
  · omega
  · subst hv
    refine ⟨g, cap, u, by simp, by simpa using hn, h1, ?_, h2.1, hb, h.top g rfl, h.off _ u h1⟩
    rw [hrow.cellAt D.length (by omega)]; exact h1
end Go.Proofs.YtcfnhjpmihngdaaGreat

namespace Go.Proofs.YtcfnhjpmihngdaaGreat
open Go.RowKit

/-- append as a step of a region that draws -/
theorem step_apps {P : Program} {w : World} {ops : Array Oper} {o : Oper} {a : Act} {K : Act → World → Prop} {Q : Exit → Act → World → Prop} {E : Prop} (hw : Region.wanted o (yielded ops a.tmps) = true) (s x : Operand) (t : TypeId)
    (ho : o.op = .call { callee := .builtin .append, args := #[s, x], argTypes := #[t, t] })
    (base : Nat) {e : TypeId} {i : TypeInfo} {z : Value} {size bytes : Nat} (ht : P.underlying t = some (.slice e)) (hi : P.info? e = some i) (hz : i.zero = some z)
    (hsize : i.size = size) (hby : i.bytes = bytes) (hzs : z.cells.size = size) (hsz : 0 < size)
    {v : Value} {n : Nat} {xs : List Value} (hs : a.eval s = v) (hown : w.ownsRow base e size v n xs)
    {B : Nat} {A : Option Addr} {m c : Nat} {news : List Value} (hx : a.eval x = .slice A m c) (hr : Rd w B A news) (hl : news.length = m * size) (h1 : ∀ u ∈ news, u.oneCell' = true)
    (hn : (n + m) * bytes ≤ 140737488355328) (hm : n + m ≤ 140737488355328) (hbase : base ≤ w.heap.size)
    (h : ∀ v' w', w'.ownsRow base e size v' (n + m) (xs ++ news) → w.grownBy w' v.ownBlock → (v'.ownBlock = v.ownBlock ∨ v'.ownBlock = some w.heap.size) → K (a.put o.dst v') w') :
    if Region.wanted o (yielded ops a.tmps) = true then Oper.wp P o a w K Q else E := by
  have key : ∃ v' w', (Builtin.append_ #[t, t] o.type #[v, .slice A m c]).run P w = .ok v' w' ∧ w'.ownsRow base e size v' (n + m) (xs ++ news) ∧ w.grownBy w' v.ownBlock ∧ (v'.ownBlock = v.ownBlock ∨ v'.ownBlock = some w.heap.size) := by
    match A, hr with
    | some ad, hr =>
      obtain ⟨v', w', h2, h3, h4, _, h5⟩ := run_append_own_at (P := P) w base t o.type e i z size bytes ht hi hz hsize hby hzs hsz v n xs hown ad m c news hl hr.cells h1 (by unfold maxLen; omega) hn hbase
      exact ⟨v', w', h2, h3, h4, h5⟩
    | none, hr =>
      have hnews : news = [] := by
        cases news with
        | nil => rfl
        | cons y ys =>
          obtain ⟨_, _, e', _⟩ := hr 0 y rfl
          cases e'
      subst hnews
      obtain rfl : m = 0 := by
        rcases Nat.eq_zero_or_pos m with h0 | h0
        · exact h0
        · have := Nat.mul_pos h0 hsz
          simp at hl
          omega
      exact ⟨v, w, run_app_none w base t o.type e i size ht hi v n xs hown c, by simpa using hown, World.grownBy.refl w _, .inl rfl⟩
  obtain ⟨v', w', hrun, h2, h3, h4⟩ := key
  rw [if_pos hw]
  unfold Oper.wp execOp
  simp only [ho, resolve, invoke, builtin, Sem.run_bind, Sem.run_pure, Result.andThen_ok, List.map_toArray, List.map_cons, List.map_nil, hs, hx, hrun]
  exact h v' w' h2 h3 h4
/-- an operation as a step of a region that draws -/
theorem step_call {P : Program} {w : World} {ops : Array Oper} {o : Oper} {a : Act} {K : Act → World → Prop} {Q : Exit → Act → World → Prop} {E : Prop} (hw : Region.wanted o (yielded ops a.tmps) = true) (h : Oper.wp P o a w K Q) :
    if Region.wanted o (yielded ops a.tmps) = true then Oper.wp P o a w K Q else E := by
  rw [if_pos hw]; exact h
end Go.Proofs.YtcfnhjpmihngdaaGreat

namespace Go.Proofs.YtcfnhjpmihngdaaGreat
open Go.RowKit Go.Maps

/-- A map literal's entry: its key and its element. -/
abbrev Ent := Value × Value

/-- b is a map whose entries are those of L that S takes. -/
structure Mp (w : World) (b : Nat) (L : List Ent) (S : Nat → Bool) (es : Array MapEntry) (clock : Nat) : Prop where
  heap : w.heap[b]? = some (.map es clock)
  born : ∀ e ∈ es.toList, e.born < clock
  nodup : (es.toList.map (·.born)).Nodup
  mem : ∀ e ∈ es.toList, ∃ j r, L[j]? = some r ∧ S j = true ∧ e.key = r.1 ∧ e.val = r.2
  all : ∀ j r, L[j]? = some r → S j = true → ∃ e ∈ es.toList, e.key = r.1 ∧ e.val = r.2

theorem Mp.lt {w : World} {b : Nat} {L : List Ent} {S : Nat → Bool} {es : Array MapEntry} {clock : Nat} (h : Mp w b L S es clock) : b < w.heap.size := (Array.getElem?_eq_some_iff.1 h.heap).1

/-- One entry more. -/
theorem run_insert {P : Program} {t k e : TypeId} {w : World} {b : Nat} {L : List Ent} {S : Nat → Bool} {es : Array MapEntry} {clock : Nat} (h : Mp w b L S es clock)
    (K : Keyed P k) (ht : P.underlying t = some (.map k e)) (hk : ∀ r ∈ L, ∃ l, keyOf P k r.1 = some l) (hd : L.Pairwise (fun p q => p.1 ≠ q.1)) {j : Nat} {r : Ent} (hj : L[j]? = some r) (hS : S j = false) :
    ∃ w', (Instr.mapUpdate t (.map (some b)) r.1 r.2).run P w = .ok () w' ∧ Mp w' b L (fun i => S i || i == j) (es.push ⟨r.1, r.2, clock⟩) (clock + 1) ∧ w.grownBy w' (some b) ∧ w'.heap.size = w.heap.size := by
  have hne : ∀ x ∈ es.toList, x.key ≠ r.1 := by
    intro x hx
    obtain ⟨i, q, hi, hSi, hxk, _⟩ := h.mem x hx
    rw [hxk]
    have hij : i ≠ j := by rintro rfl; rw [hSi] at hS; cases hS
    rw [List.pairwise_iff_getElem] at hd
    obtain ⟨hi1, hi2⟩ := List.getElem?_eq_some_iff.1 hi
    obtain ⟨hj1, hj2⟩ := List.getElem?_eq_some_iff.1 hj
    rcases Nat.lt_or_gt_of_ne hij with hlt | hgt
    · have := hd i j hi1 hj1 hlt; rwa [hi2, hj2] at this
    · have := hd j i hj1 hi1 hgt; rw [hi2, hj2] at this; exact this.symm
  have hkeys : ∀ x ∈ es.toList, ∃ l, keyOf P k x.key = some l := by
    intro x hx
    obtain ⟨i, q, hi, _, hxk, _⟩ := h.mem x hx
    rw [hxk]
    exact hk q (List.mem_of_getElem? hi)
  obtain ⟨l, hl⟩ := hk r (List.mem_of_getElem? hj)
  have hfind : (Instr.findKey k r.1 es.toList).run P w = .ok none w := by
    rcases K.find w hl es.toList hkeys with ⟨h1, _⟩ | ⟨_, x, _, h2, h3⟩
    · exact h1
    · exact absurd h3 (hne x (List.mem_of_getElem? h2))
  have hset := MapKept.run_setObj_map (P := P) (Obj.map (es.push ⟨r.1, r.2, clock⟩) (clock + 1)) h.heap
  refine ⟨Go.ChangeMaps.setBlock w b (.map (es.push ⟨r.1, r.2, clock⟩) (clock + 1)), ?_, ?_, ?_, ?_⟩
  · simp [Instr.mapUpdate, run_underlying ht, MapKept.run_getObj_map h.heap, K.check w false hl, hfind, MapKept.run_setObj_map _ h.heap, Result.andThen, Go.ChangeMaps.setBlock]
  · refine ⟨Go.ChangeMaps.heap_setBlock_same h.heap _, ?_, ?_, ?_, ?_⟩
    · intro x hx
      simp only [Array.toList_push, List.mem_append, List.mem_singleton] at hx
      rcases hx with hx | rfl
      · have := h.born x hx; omega
      · simp
    · simp only [Array.toList_push, List.map_append, List.map_cons, List.map_nil]
      rw [List.nodup_append]
      refine ⟨h.nodup, by simp, ?_⟩
      intro a ha c hc
      obtain ⟨x, hx, rfl⟩ := List.mem_map.1 ha
      simp only [List.mem_singleton] at hc
      subst hc
      have := h.born x hx
      omega
    · intro x hx
      simp only [Array.toList_push, List.mem_append, List.mem_singleton] at hx
      rcases hx with hx | rfl
      · obtain ⟨i, q, hi, hSi, h1, h2⟩ := h.mem x hx
        exact ⟨i, q, hi, by simp [hSi], h1, h2⟩
      · exact ⟨j, r, hj, by simp, rfl, rfl⟩
    · intro i q hi hSi
      simp only [Bool.or_eq_true, beq_iff_eq] at hSi
      rcases hSi with hSi | rfl
      · obtain ⟨x, hx, h1, h2⟩ := h.all i q hi hSi
        exact ⟨x, by simp only [Array.toList_push, List.mem_append]; exact .inl hx, h1, h2⟩
      · rw [hj] at hi
        cases hi
        exact ⟨⟨r.1, r.2, clock⟩, by simp, rfl, rfl⟩
  · exact ⟨rfl, rfl, rfl, by simp [Go.ChangeMaps.setBlock], fun i _ hi => Go.ChangeMaps.heap_setBlock_other h.heap _ (fun e => hi (by rw [e]))⟩
  · simp [Go.ChangeMaps.setBlock]

/-! ### any order -/
theorem lget (l : Array Bool) (i j : Nat) (h : i < l.size) : (l.setIfInBounds i true).getD j false = (decide (i = j) || l.getD j false) := by
  simp only [Array.getD_eq_getD_getElem?, Array.getElem?_setIfInBounds]
  by_cases e : i = j
  · subst e; simp [h]
  · simp [e]
theorem tget (t : Array Value) (i j : Nat) (v : Value) (h : i < t.size) : (t.setIfInBounds i v).getD j undef = if i = j then v else t.getD j undef := by
  simp only [Array.getD_eq_getD_getElem?, Array.getElem?_setIfInBounds]
  by_cases e : i = j
  · subst e; simp [h]
  · simp [e]

def leftB (l : Array Bool) : Nat := l.toList.countP (fun b => b == false)
theorem leftB_set (l : Array Bool) (i : Nat) (h : l.getD i true = false) : leftB (l.setIfInBounds i true) + 1 = leftB l := by
  have hi : i < l.toList.length := by
    rcases Nat.lt_or_ge i l.size with h1 | h1
    · simpa using h1
    · simp [Array.getD_eq_getD_getElem?, Array.getElem?_eq_none h1] at h
  have hv : l.toList[i] = false := by
    have hi' : i < l.size := by simpa using hi
    simp [Array.getD_eq_getD_getElem?, Array.getElem?_eq_getElem hi'] at h
    simpa using h
  unfold leftB
  rw [Array.toList_setIfInBounds, List.countP_set hi, hv]
  have : 0 < l.toList.countP (fun b => b == false) := List.countP_pos_iff.2 ⟨false, by rw [← hv]; exact List.getElem_mem hi, by simp⟩
  rw [if_pos (by simp), if_neg (by simp)]
  omega

theorem wpAny_inv {P : Program} {md : Region.Mode} {ops : Array Oper} {Q : Exit → Act → World → Prop} (Inv : Array Bool → Act → World → Prop)
    (hstep : ∀ listed a w i, Inv listed a w → i ∈ Region.ready md ops listed → wpOp P ops Q i (Inv (listed.setIfInBounds i true)) a w)
    (hdone : ∀ listed a w, Inv listed a w → Region.ready md ops listed = [] → Q .normal a w) :
    ∀ (fuel : Nat) (listed : Array Bool) (a : Act) (w : World), leftB listed ≤ fuel → listed.size = ops.size → Inv listed a w → wpAny P md ops Q fuel listed a w
  | 0, listed, a, w, hl, hs, h => by
    have hr : Region.ready md ops listed = [] := by
      rw [List.eq_nil_iff_forall_not_mem]
      intro i hi
      have := leftB_set listed i (mem_ready.1 hi).1
      omega
    exact ⟨hr, hdone _ _ _ h hr⟩
  | fuel + 1, listed, a, w, hl, hs, h =>
    ⟨hdone _ _ _ h, fun i hi => wpOp_mono (fun a' w' h' => wpAny_inv Inv hstep hdone fuel _ a' w' (by have := leftB_set listed i (mem_ready.1 hi).1; omega) (by simpa using hs) h') (hstep _ _ _ _ h hi)⟩

theorem leftB_start (n : Nat) : leftB (Array.replicate n false) = n := by
  unfold leftB
  rw [Array.toList_replicate, List.countP_replicate]
  simp

/-- Where nothing is left that may come up, all has come up. -/
theorem all_listed {md : Region.Mode} {ops : Array Oper} {listed : Array Bool} (hs : listed.size = ops.size) (hac : ∀ i o, ops[i]? = some o → ∀ e ∈ o.after, Region.binds md e = true → e.on < i)
    (hr : Region.ready md ops listed = []) : ∀ i, i < ops.size → listed.getD i false = true := by
  intro i
  induction i using Nat.strongRecOn with
  | ind i ih =>
    intro hi
    cases hl : listed.getD i false
    · exfalso
      have hl' : listed.getD i true = false := by
        have hi' : i < listed.size := by omega
        simp only [Array.getD_eq_getD_getElem?, Array.getElem?_eq_getElem hi', Option.getD_some] at hl ⊢
        exact hl
      have : i ∈ Region.ready md ops listed := mem_ready.2 ⟨hl', ops[i], Array.getElem?_eq_getElem hi, fun e he hb => ih e.on (hac i _ (Array.getElem?_eq_getElem hi) e he hb) (by have := hac i _ (Array.getElem?_eq_getElem hi) e he hb; omega)⟩
      rw [hr] at this
      cases this
    · rfl

/-! ### the region of a literal whose keys and elements are structs of two numbers -/
abbrev Row4 := Int × Int × Int × Int
def rKey (r : Row4) : Value := .agg #[.int .i64 r.1, .int .i64 r.2.1]
def rVal (r : Row4) : Value := .agg #[.int .i64 r.2.2.1, .int .i64 r.2.2.2]
def rEnt (r : Row4) : Ent := (rKey r, rVal r)

structure LitOps (ops : Array Oper) (tm tk tv : TypeId) (R : List Row4) : Prop where
  size : ops.size = 3 * R.length + 3
  make : ∃ o, ops[0]? = some o ∧ o.dst = some 1 ∧ o.op = .makeMap tm none ∧ o.guard = none
  key : ∀ j r, R[j]? = some r → ∃ o, ops[3 * j + 1]? = some o ∧ o.dst = some (2 * j + 2) ∧ o.op = .build tk #[(0, .const (.int .i64 r.1)), (1, .const (.int .i64 r.2.1))] ∧ o.guard = none
  val : ∀ j r, R[j]? = some r → ∃ o, ops[3 * j + 2]? = some o ∧ o.dst = some (2 * j + 3) ∧ o.op = .build tv #[(0, .const (.int .i64 r.2.2.1)), (1, .const (.int .i64 r.2.2.2))] ∧ o.guard = none
  ins : ∀ j r, R[j]? = some r → ∃ o, ops[3 * j + 3]? = some o ∧ o.dst = none ∧ o.op = .insert tm (.tmp 1) (.tmp (2 * j + 2)) (.tmp (2 * j + 3)) ∧ o.guard = none ∧
    (∃ e ∈ o.after, Region.binds .any e = true ∧ e.on = 0) ∧ (∃ e ∈ o.after, Region.binds .any e = true ∧ e.on = 3 * j + 1) ∧ (∃ e ∈ o.after, Region.binds .any e = true ∧ e.on = 3 * j + 2)
  mov : ∃ o, ops[3 * R.length + 1]? = some o ∧ o.dst = some (2 * R.length + 2) ∧ o.op = .move (.tmp 1) ∧ o.guard = none ∧ (∃ e ∈ o.after, Region.binds .any e = true ∧ e.on = 0)
  asg : ∃ o, ops[3 * R.length + 2]? = some o ∧ o.dst = some 0 ∧ o.op = .assign (.tmp (2 * R.length + 2)) ∧ o.guard = none ∧ (∃ e ∈ o.after, Region.binds .any e = true ∧ e.on = 3 * R.length + 1)
  acyc : ∀ i o, ops[i]? = some o → ∀ e ∈ o.after, Region.binds .any e = true → e.on < i

structure LitInv (ops : Array Oper) (R : List Row4) (W : World) (N : Nat) (listed : Array Bool) (a : Act) (w : World) : Prop where
  lsz : listed.size = ops.size
  tsz : a.tmps.size = N
  dfr : a.defers = []
  key : ∀ j r, R[j]? = some r → listed.getD (3 * j + 1) false = true → a.tmps.getD (2 * j + 2) undef = rKey r
  val : ∀ j r, R[j]? = some r → listed.getD (3 * j + 2) false = true → a.tmps.getD (2 * j + 3) undef = rVal r
  start : listed.getD 0 false = false → w = W ∧ ∀ j, j < R.length → listed.getD (3 * j + 3) false = false
  made : listed.getD 0 false = true → a.tmps.getD 1 undef = .map (some W.heap.size) ∧ Below W.heap.size W w ∧ ∃ es clock, Mp w W.heap.size (R.map rEnt) (fun j => decide (j < R.length) && listed.getD (3 * j + 3) false) es clock
  mov : listed.getD (3 * R.length + 1) false = true → a.tmps.getD (2 * R.length + 2) undef = .map (some W.heap.size)
  asg : listed.getD (3 * R.length + 2) false = true → a.tmps.getD 0 undef = .map (some W.heap.size)

theorem ready_in {md : Region.Mode} {ops : Array Oper} {listed : Array Bool} {i : Nat} (h : i ∈ Region.ready md ops listed) : i < ops.size := by
  obtain ⟨_, o, ho, _⟩ := mem_ready.1 h
  exact (Array.getElem?_eq_some_iff.1 ho).1

/-- An operation that yields a value and leaves the world. -/
theorem wpOp_yield {P : Program} {ops : Array Oper} {Q : Exit → Act → World → Prop} {i : Nat} {o : Oper} {K : Act → World → Prop} {a : Act} {w w' : World} {v : Value} (ho : ops[i]? = some o) (hg : o.guard = none)
    (hr : (execOp a.eval o).run P w = .ok (.value v) w') (h : K (a.put o.dst v) w') : wpOp P ops Q i K a w := by
  refine wpOp_step ho fun K' hK => ?_
  simp only [Region.wanted, hg, if_true]
  unfold Oper.wp
  rw [hr]
  exact hK _ _ h
theorem wpOp_skip {P : Program} {ops : Array Oper} {Q : Exit → Act → World → Prop} {i : Nat} {o : Oper} {K : Act → World → Prop} {a : Act} {w w' : World} (ho : ops[i]? = some o) (hg : o.guard = none)
    (hr : (execOp a.eval o).run P w = .ok .skip w') (h : K (a.put o.dst undef) w') : wpOp P ops Q i K a w := by
  refine wpOp_step ho fun K' hK => ?_
  simp only [Region.wanted, hg, if_true]
  unfold Oper.wp
  rw [hr]
  exact hK _ _ h

theorem getD_ft {l : Array Bool} {i : Nat} (h : l.getD i true = false) : i < l.size ∧ l.getD i false = false := by
  rcases Nat.lt_or_ge i l.size with h1 | h1
  · refine ⟨h1, ?_⟩
    simp only [Array.getD_eq_getD_getElem?, Array.getElem?_eq_getElem h1, Option.getD_some] at h ⊢
    exact h
  · simp [Array.getD_eq_getD_getElem?, Array.getElem?_eq_none h1] at h

section
variable {P : Program} {ops : Array Oper} {tm tk tv te : TypeId} {R : List Row4}

theorem lit_step (L : LitOps ops tm tk tv R) (K : Keyed P tk) (ht : P.underlying tm = some (.map tk te)) (hk : ∀ r ∈ R, ∃ l, keyOf P tk (rKey r) = some l) (hd : R.Pairwise (fun p q => rKey p ≠ rKey q))
    (bk : ∀ (x y : Int) (w : World), (Instr.build tk #[(0, .int .i64 x), (1, .int .i64 y)]).run P w = .ok (.agg #[.int .i64 x, .int .i64 y]) w)
    (bv : ∀ (x y : Int) (w : World), (Instr.build tv #[(0, .int .i64 x), (1, .int .i64 y)]).run P w = .ok (.agg #[.int .i64 x, .int .i64 y]) w)
    {W : World} {N : Nat} (hN : 2 * R.length + 3 ≤ N) {Q : Exit → Act → World → Prop} (listed : Array Bool) (a : Act) (w : World) (i : Nat) (h : LitInv ops R W N listed a w) (hi : i ∈ Region.ready .any ops listed) :
    wpOp P ops Q i (LitInv ops R W N (listed.setIfInBounds i true)) a w := by
  have hlt := ready_in hi
  obtain ⟨hun, o, ho, hall⟩ := mem_ready.1 hi
  obtain ⟨his, hun'⟩ := getD_ft hun
  have hsz := L.size
  have hlsz := h.lsz
  have htsz := h.tsz
  have hlen : (listed.setIfInBounds i true).size = ops.size := by simpa using hlsz
  have lg := fun j => lget listed i j his
  have parts : i = 0 ∨ (∃ j, j < R.length ∧ i = 3 * j + 1) ∨ (∃ j, j < R.length ∧ i = 3 * j + 2) ∨ (∃ j, j < R.length ∧ i = 3 * j + 3) ∨ i = 3 * R.length + 1 ∨ i = 3 * R.length + 2 := by
    rcases (by omega : i = 0 ∨ i = 3 * R.length + 1 ∨ i = 3 * R.length + 2 ∨ (i = 3 * ((i - 1) / 3) + 1 ∧ (i - 1) / 3 < R.length) ∨ (i = 3 * ((i - 1) / 3) + 2 ∧ (i - 1) / 3 < R.length) ∨ (i = 3 * ((i - 1) / 3) + 3 ∧ (i - 1) / 3 < R.length)) with e | e | e | ⟨e, e'⟩ | ⟨e, e'⟩ | ⟨e, e'⟩
    · exact .inl e
    · exact .inr (.inr (.inr (.inr (.inl e))))
    · exact .inr (.inr (.inr (.inr (.inr e))))
    · exact .inr (.inl ⟨_, e', e⟩)
    · exact .inr (.inr (.inl ⟨_, e', e⟩))
    · exact .inr (.inr (.inr (.inl ⟨_, e', e⟩)))
  rcases parts with rfl | ⟨j, hj, rfl⟩ | ⟨j, hj, rfl⟩ | ⟨j, hj, rfl⟩ | rfl | rfl
  · -- the map is made
    obtain ⟨o', ho', hdst, hop, hg⟩ := L.make
    rw [ho'] at ho; cases ho
    obtain ⟨rfl, hnone⟩ := h.start hun'
    refine wpOp_yield (v := .map (some w.heap.size)) (w' := w.alloc (.map #[] 0)) ho' hg (by simp [execOp, hop, run_makeMap, Result.andThen]) ?_
    rw [hdst]
    have tg := fun j v => tget a.tmps 1 j v (by omega)
    refine ⟨hlen, by simpa [Act.put] using htsz, h.dfr, ?_, ?_, ?_, ?_, ?_, ?_⟩
    · intro j r hr hl
      rw [lg, decide_eq_false (by omega), Bool.false_or] at hl
      show (a.tmps.setIfInBounds 1 _).getD _ undef = _
      rw [tg, if_neg (by omega)]; exact h.key j r hr hl
    · intro j r hr hl
      rw [lg, decide_eq_false (by omega), Bool.false_or] at hl
      show (a.tmps.setIfInBounds 1 _).getD _ undef = _
      rw [tg, if_neg (by omega)]; exact h.val j r hr hl
    · intro hl; rw [lg] at hl; simp at hl
    · intro _
      refine ⟨by show (a.tmps.setIfInBounds 1 _).getD _ undef = _; rw [tg, if_pos rfl], (Below.refl _ _).alloc (Nat.le_refl _) _, #[], 0, (MapKept.heap_alloc w _).1, by simp, by simp, by simp, ?_⟩
      intro j r hr hS
      simp only [Bool.and_eq_true, decide_eq_true_eq] at hS
      obtain ⟨hjl, hS⟩ := hS
      rw [lg, decide_eq_false (by omega), Bool.false_or, hnone j hjl] at hS
      cases hS
    · intro hl
      rw [lg, decide_eq_false (by omega), Bool.false_or] at hl
      show (a.tmps.setIfInBounds 1 _).getD _ undef = _
      rw [tg, if_neg (by omega)]; exact h.mov hl
    · intro hl
      rw [lg, decide_eq_false (by omega), Bool.false_or] at hl
      show (a.tmps.setIfInBounds 1 _).getD _ undef = _
      rw [tg, if_neg (by omega)]; exact h.asg hl
  · -- a key
    obtain ⟨r, hr⟩ : ∃ r, R[j]? = some r := ⟨_, List.getElem?_eq_getElem hj⟩
    obtain ⟨o', ho', hdst, hop, hg⟩ := L.key j r hr
    rw [ho'] at ho; cases ho
    refine wpOp_yield (v := rKey r) (w' := w) ho' hg (by simp [execOp, hop, Act.eval, bk, Result.andThen, rKey]) ?_
    rw [hdst]
    have tg := fun k v => tget a.tmps (2 * j + 2) k v (by omega)
    refine ⟨hlen, by simpa [Act.put] using htsz, h.dfr, ?_, ?_, ?_, ?_, ?_, ?_⟩
    · intro j' r' hr' hl
      show (a.tmps.setIfInBounds _ _).getD _ undef = _
      rw [tg]
      by_cases e : j = j'
      · subst e; rw [if_pos rfl]; rw [hr] at hr'; cases hr'; rfl
      · rw [if_neg (by omega)]; rw [lg, decide_eq_false (by omega), Bool.false_or] at hl; exact h.key j' r' hr' hl
    · intro j' r' hr' hl
      rw [lg, decide_eq_false (by omega), Bool.false_or] at hl
      show (a.tmps.setIfInBounds _ _).getD _ undef = _
      rw [tg, if_neg (by omega)]; exact h.val j' r' hr' hl
    · intro hl
      rw [lg, decide_eq_false (by omega), Bool.false_or] at hl
      obtain ⟨hw, hnone⟩ := h.start hl
      exact ⟨hw, fun j' hj' => by rw [lg, decide_eq_false (by omega), Bool.false_or]; exact hnone j' hj'⟩
    · intro hl
      rw [lg, decide_eq_false (by omega), Bool.false_or] at hl
      obtain ⟨h1, h2, es, clock, hm⟩ := h.made hl
      refine ⟨by show (a.tmps.setIfInBounds _ _).getD _ undef = _; rw [tg, if_neg (by omega)]; exact h1, h2, es, clock, ?_⟩
      have : (fun k => decide (k < R.length) && (listed.setIfInBounds (3 * j + 1) true).getD (3 * k + 3) false) = (fun k => decide (k < R.length) && listed.getD (3 * k + 3) false) := by
        funext k; rw [lg, decide_eq_false (p := 3 * j + 1 = 3 * k + 3) (by omega), Bool.false_or]
      rw [this]; exact hm
    · intro hl
      rw [lg, decide_eq_false (by omega), Bool.false_or] at hl
      show (a.tmps.setIfInBounds _ _).getD _ undef = _
      rw [tg, if_neg (by omega)]; exact h.mov hl
    · intro hl
      rw [lg, decide_eq_false (by omega), Bool.false_or] at hl
      show (a.tmps.setIfInBounds _ _).getD _ undef = _
      rw [tg, if_neg (by omega)]; exact h.asg hl
  · -- an element
    obtain ⟨r, hr⟩ : ∃ r, R[j]? = some r := ⟨_, List.getElem?_eq_getElem hj⟩
    obtain ⟨o', ho', hdst, hop, hg⟩ := L.val j r hr
    rw [ho'] at ho; cases ho
    refine wpOp_yield (v := rVal r) (w' := w) ho' hg (by simp [execOp, hop, Act.eval, bv, Result.andThen, rVal]) ?_
    rw [hdst]
    have tg := fun k v => tget a.tmps (2 * j + 3) k v (by omega)
    refine ⟨hlen, by simpa [Act.put] using htsz, h.dfr, ?_, ?_, ?_, ?_, ?_, ?_⟩
    · intro j' r' hr' hl
      rw [lg, decide_eq_false (by omega), Bool.false_or] at hl
      show (a.tmps.setIfInBounds _ _).getD _ undef = _
      rw [tg, if_neg (by omega)]; exact h.key j' r' hr' hl
    · intro j' r' hr' hl
      show (a.tmps.setIfInBounds _ _).getD _ undef = _
      rw [tg]
      by_cases e : j = j'
      · subst e; rw [if_pos rfl]; rw [hr] at hr'; cases hr'; rfl
      · rw [if_neg (by omega)]; rw [lg, decide_eq_false (by omega), Bool.false_or] at hl; exact h.val j' r' hr' hl
    · intro hl
      rw [lg, decide_eq_false (by omega), Bool.false_or] at hl
      obtain ⟨hw, hnone⟩ := h.start hl
      exact ⟨hw, fun j' hj' => by rw [lg, decide_eq_false (by omega), Bool.false_or]; exact hnone j' hj'⟩
    · intro hl
      rw [lg, decide_eq_false (by omega), Bool.false_or] at hl
      obtain ⟨h1, h2, es, clock, hm⟩ := h.made hl
      refine ⟨by show (a.tmps.setIfInBounds _ _).getD _ undef = _; rw [tg, if_neg (by omega)]; exact h1, h2, es, clock, ?_⟩
      have : (fun k => decide (k < R.length) && (listed.setIfInBounds (3 * j + 2) true).getD (3 * k + 3) false) = (fun k => decide (k < R.length) && listed.getD (3 * k + 3) false) := by
        funext k; rw [lg, decide_eq_false (p := 3 * j + 2 = 3 * k + 3) (by omega), Bool.false_or]
      rw [this]; exact hm
    · intro hl
      rw [lg, decide_eq_false (by omega), Bool.false_or] at hl
      show (a.tmps.setIfInBounds _ _).getD _ undef = _
      rw [tg, if_neg (by omega)]; exact h.mov hl
    · intro hl
      rw [lg, decide_eq_false (by omega), Bool.false_or] at hl
      show (a.tmps.setIfInBounds _ _).getD _ undef = _
      rw [tg, if_neg (by omega)]; exact h.asg hl
  · -- an entry
    obtain ⟨r, hr⟩ : ∃ r, R[j]? = some r := ⟨_, List.getElem?_eq_getElem hj⟩
    obtain ⟨o', ho', hdst, hop, hg, ⟨e0, he0, hb0, hon0⟩, ⟨e1, he1, hb1, hon1⟩, ⟨e2, he2, hb2, hon2⟩⟩ := L.ins j r hr
    rw [ho'] at ho; cases ho
    have l0 := hall e0 he0 hb0
    have l1 := hall e1 he1 hb1
    have l2 := hall e2 he2 hb2
    rw [hon0] at l0; rw [hon1] at l1; rw [hon2] at l2
    obtain ⟨h1, h2, es, clock, hm⟩ := h.made l0
    have k1 := h.key j r hr l1
    have k2 := h.val j r hr l2
    have hkm : ∀ q ∈ R.map rEnt, ∃ l, keyOf P tk q.1 = some l := by
      intro q hq
      obtain ⟨r', hr', rfl⟩ := List.mem_map.1 hq
      exact hk r' hr'
    have hdm : (R.map rEnt).Pairwise (fun p q => p.1 ≠ q.1) := by rw [List.pairwise_map]; exact hd
    obtain ⟨w', hrun, hm', hgr, hsz'⟩ := run_insert (P := P) hm K ht hkm hdm (j := j) (r := rEnt r) (by rw [List.getElem?_map, hr]; rfl) (by simp [hun'])
    refine wpOp_skip (w' := w') ho' hg (by simp only [execOp, hop, Act.eval, h1, k1, k2]; show ((Instr.mapUpdate tm (.map (some W.heap.size)) (rEnt r).1 (rEnt r).2 >>= fun _ => pure Next.skip).run P w) = _; rw [Sem.run_bind, hrun]; rfl) ?_
    rw [hdst]
    refine ⟨hlen, htsz, h.dfr, ?_, ?_, ?_, ?_, ?_, ?_⟩
    · intro j' r' hr' hl
      rw [lg, decide_eq_false (by omega), Bool.false_or] at hl
      exact h.key j' r' hr' hl
    · intro j' r' hr' hl
      rw [lg, decide_eq_false (by omega), Bool.false_or] at hl
      exact h.val j' r' hr' hl
    · intro hl
      rw [lg, decide_eq_false (by omega), Bool.false_or, l0] at hl
      cases hl
    · intro _
      refine ⟨h1, h2.grown hgr h2.size (fun g hg => by cases hg; exact Nat.le_refl _), es.push ⟨(rEnt r).1, (rEnt r).2, clock⟩, clock + 1, ?_⟩
      have : (fun k => decide (k < R.length) && (listed.setIfInBounds (3 * j + 3) true).getD (3 * k + 3) false) = (fun k => (decide (k < R.length) && listed.getD (3 * k + 3) false) || k == j) := by
        funext k
        rw [lg]
        by_cases e : k = j
        · subst e; simp [hj]
        · rw [decide_eq_false (p := 3 * j + 3 = 3 * k + 3) (by omega), Bool.false_or]
          have : (k == j) = false := by simpa using e
          rw [this, Bool.or_false]
      rw [this]; exact hm'
    · intro hl
      rw [lg, decide_eq_false (by omega), Bool.false_or] at hl
      exact h.mov hl
    · intro hl
      rw [lg, decide_eq_false (by omega), Bool.false_or] at hl
      exact h.asg hl
  · -- the value is taken
    obtain ⟨o', ho', hdst, hop, hg, ⟨e0, he0, hb0, hon0⟩⟩ := L.mov
    rw [ho'] at ho; cases ho
    have l0 := hall e0 he0 hb0
    rw [hon0] at l0
    obtain ⟨h1, h2, es, clock, hm⟩ := h.made l0
    refine wpOp_yield (v := .map (some W.heap.size)) (w' := w) ho' hg (by simp [execOp, hop, Act.eval, h1]) ?_
    rw [hdst]
    have tg := fun k v => tget a.tmps (2 * R.length + 2) k v (by omega)
    refine ⟨hlen, by simpa [Act.put] using htsz, h.dfr, ?_, ?_, ?_, ?_, ?_, ?_⟩
    · intro j' r' hr' hl
      have hj' := (List.getElem?_eq_some_iff.1 hr').1
      rw [lg, decide_eq_false (by omega), Bool.false_or] at hl
      show (a.tmps.setIfInBounds _ _).getD _ undef = _
      rw [tg, if_neg (by omega)]; exact h.key j' r' hr' hl
    · intro j' r' hr' hl
      have hj' := (List.getElem?_eq_some_iff.1 hr').1
      rw [lg, decide_eq_false (by omega), Bool.false_or] at hl
      show (a.tmps.setIfInBounds _ _).getD _ undef = _
      rw [tg, if_neg (by omega)]; exact h.val j' r' hr' hl
    · intro hl
      rw [lg, decide_eq_false (by omega), Bool.false_or, l0] at hl
      cases hl
    · intro _
      refine ⟨by show (a.tmps.setIfInBounds _ _).getD _ undef = _; rw [tg, if_neg (by omega)]; exact h1, h2, es, clock, ?_⟩
      have : (fun k => decide (k < R.length) && (listed.setIfInBounds (3 * R.length + 1) true).getD (3 * k + 3) false) = (fun k => decide (k < R.length) && listed.getD (3 * k + 3) false) := by
        funext k; rw [lg, decide_eq_false (p := 3 * R.length + 1 = 3 * k + 3) (by omega), Bool.false_or]
      rw [this]; exact hm
    · intro _
      show (a.tmps.setIfInBounds _ _).getD _ undef = _
      rw [tg, if_pos rfl]
    · intro hl
      rw [lg, decide_eq_false (by omega), Bool.false_or] at hl
      show (a.tmps.setIfInBounds _ _).getD _ undef = _
      rw [tg, if_neg (by omega)]; exact h.asg hl
  · -- the result
    obtain ⟨o', ho', hdst, hop, hg, ⟨e0, he0, hb0, hon0⟩⟩ := L.asg
    rw [ho'] at ho; cases ho
    have l0 := hall e0 he0 hb0
    rw [hon0] at l0
    have m1 := h.mov l0
    refine wpOp_yield (v := .map (some W.heap.size)) (w' := w) ho' hg (by simp [execOp, hop, Act.eval, m1]) ?_
    rw [hdst]
    have tg := fun k v => tget a.tmps 0 k v (by omega)
    refine ⟨hlen, by simpa [Act.put] using htsz, h.dfr, ?_, ?_, ?_, ?_, ?_, ?_⟩
    · intro j' r' hr' hl
      have hj' := (List.getElem?_eq_some_iff.1 hr').1
      rw [lg, decide_eq_false (by omega), Bool.false_or] at hl
      show (a.tmps.setIfInBounds _ _).getD _ undef = _
      rw [tg, if_neg (by omega)]; exact h.key j' r' hr' hl
    · intro j' r' hr' hl
      have hj' := (List.getElem?_eq_some_iff.1 hr').1
      rw [lg, decide_eq_false (by omega), Bool.false_or] at hl
      show (a.tmps.setIfInBounds _ _).getD _ undef = _
      rw [tg, if_neg (by omega)]; exact h.val j' r' hr' hl
    · intro hl
      rw [lg, decide_eq_false (by omega), Bool.false_or] at hl
      obtain ⟨hw, hnone⟩ := h.start hl
      exact ⟨hw, fun j' hj' => by rw [lg, decide_eq_false (by omega), Bool.false_or]; exact hnone j' hj'⟩
    · intro hl
      rw [lg, decide_eq_false (by omega), Bool.false_or] at hl
      obtain ⟨h1, h2, es, clock, hm⟩ := h.made hl
      refine ⟨by show (a.tmps.setIfInBounds _ _).getD _ undef = _; rw [tg, if_neg (by omega)]; exact h1, h2, es, clock, ?_⟩
      have : (fun k => decide (k < R.length) && (listed.setIfInBounds (3 * R.length + 2) true).getD (3 * k + 3) false) = (fun k => decide (k < R.length) && listed.getD (3 * k + 3) false) := by
        funext k; rw [lg, decide_eq_false (p := 3 * R.length + 2 = 3 * k + 3) (by omega), Bool.false_or]
      rw [this]; exact hm
    · intro hl
      rw [lg, decide_eq_false (by omega), Bool.false_or] at hl
      show (a.tmps.setIfInBounds _ _).getD _ undef = _
      rw [tg, if_neg (by omega)]; exact h.mov hl
    · intro _
      show (a.tmps.setIfInBounds _ _).getD _ undef = _
      rw [tg, if_pos rfl]

/-- THE REGION: whatever the order, behind it slot 0 holds a new map with just these entries. -/
theorem wp_region_lit (L : LitOps ops tm tk tv R) (K : Keyed P tk) (ht : P.underlying tm = some (.map tk te)) (hk : ∀ r ∈ R, ∃ l, keyOf P tk (rKey r) = some l) (hd : R.Pairwise (fun p q => rKey p ≠ rKey q))
    (bk : ∀ (x y : Int) (w : World), (Instr.build tk #[(0, .int .i64 x), (1, .int .i64 y)]).run P w = .ok (.agg #[.int .i64 x, .int .i64 y]) w)
    (bv : ∀ (x y : Int) (w : World), (Instr.build tv #[(0, .int .i64 x), (1, .int .i64 y)]).run P w = .ok (.agg #[.int .i64 x, .int .i64 y]) w)
    {id : Nat} {Q : Exit → Act → World → Prop} {a : Act} {w : World} (hm : P.follows .mixedOrders = true) (hN : 2 * R.length + 3 ≤ a.tmps.size) (hdf : a.defers = [])
    (h : ∀ a' w', a'.tmps.size = a.tmps.size → a'.defers = [] → a'.tmps.getD 0 undef = .map (some w.heap.size) → Below w.heap.size w w' → (∃ es clock, Mp w' w.heap.size (R.map rEnt) (fun j => decide (j < R.length)) es clock) → Q .normal a' w') :
    (Code.region id ops true).wp P Q a w := by
  refine wp_region_any hm (wpAny_inv (LitInv ops R (w.drew) a.tmps.size) (fun listed a' w' i hI hi => lit_step L K ht hk hd bk bv hN listed a' w' i hI hi) ?_ _ _ _ _ (by rw [leftB_start]; exact Nat.le_refl _) (by simp) ?_)
  · intro listed a' w' hI hr
    have hall := all_listed hI.lsz L.acyc hr
    have hsz := L.size
    obtain ⟨_, h2, es, clock, hmp⟩ := hI.made (hall 0 (by omega))
    refine h a' w' hI.tsz hI.dfr (hI.asg (hall _ (by omega))) ⟨h2.os, h2.tape, h2.output, h2.size, h2.block⟩ ⟨es, clock, ?_⟩
    have : (fun j => decide (j < R.length)) = (fun j => decide (j < R.length) && listed.getD (3 * j + 3) false) := by
      funext j
      by_cases e : j < R.length
      · rw [hall (3 * j + 3) (by omega), Bool.and_true]
      · rw [decide_eq_false e]; rfl
    rw [this]; exact hmp
  · have z : ∀ i, (Array.replicate ops.size false).getD i false = false := by
      intro i
      simp only [Array.getD_eq_getD_getElem?, Array.getElem?_replicate]
      split <;> rfl
    exact ⟨by simp, rfl, hdf, fun j r _ hl => (by rw [z] at hl; cases hl), fun j r _ hl => (by rw [z] at hl; cases hl), fun _ => ⟨rfl, fun j _ => z _⟩, fun hl => (by rw [z] at hl; cases hl), fun hl => (by rw [z] at hl; cases hl), fun hl => (by rw [z] at hl; cases hl)⟩
end

/-! ### the region's form, by a run of the kernel -/
def litDst (R : List Row4) (i : Nat) : Option Tmp :=
  if i = 0 then some 1 else if i = 3 * R.length + 1 then some (2 * R.length + 2) else if i = 3 * R.length + 2 then some 0
  else if (i - 1) % 3 = 0 then some (2 * ((i - 1) / 3) + 2) else if (i - 1) % 3 = 1 then some (2 * ((i - 1) / 3) + 3) else none
def litOp (tm tk tv : TypeId) (R : List Row4) (i : Nat) : Op :=
  if i = 0 then .makeMap tm none else if i = 3 * R.length + 1 then .move (.tmp 1) else if i = 3 * R.length + 2 then .assign (.tmp (2 * R.length + 2))
  else if (i - 1) % 3 = 0 then .build tk #[(0, .const (.int .i64 (R.getD ((i - 1) / 3) (0, 0, 0, 0)).1)), (1, .const (.int .i64 (R.getD ((i - 1) / 3) (0, 0, 0, 0)).2.1))]
  else if (i - 1) % 3 = 1 then .build tv #[(0, .const (.int .i64 (R.getD ((i - 1) / 3) (0, 0, 0, 0)).2.2.1)), (1, .const (.int .i64 (R.getD ((i - 1) / 3) (0, 0, 0, 0)).2.2.2))]
  else .insert tm (.tmp 1) (.tmp (2 * ((i - 1) / 3) + 2)) (.tmp (2 * ((i - 1) / 3) + 3))
def edgeTo (o : Oper) (d : Nat) : Bool := o.after.any fun e => Region.binds .any e && e.on == d
def litEdges (R : List Row4) (i : Nat) (o : Oper) : Bool :=
  (o.after.all fun e => !Region.binds .any e || decide (e.on < i)) &&
  (if i = 0 then true else if i = 3 * R.length + 1 then edgeTo o 0 else if i = 3 * R.length + 2 then edgeTo o (3 * R.length + 1)
   else if (i - 1) % 3 = 2 then edgeTo o 0 && edgeTo o (3 * ((i - 1) / 3) + 1) && edgeTo o (3 * ((i - 1) / 3) + 2) else true)

theorem edgeTo_spec {o : Oper} {d : Nat} (h : edgeTo o d = true) : ∃ e ∈ o.after, Region.binds .any e = true ∧ e.on = d := by
  obtain ⟨e, he, h1⟩ := Array.any_eq_true'.1 h
  simp only [Bool.and_eq_true, beq_iff_eq] at h1
  exact ⟨e, he, h1⟩

theorem litOps_of {ops : Array Oper} {tm tk tv : TypeId} {R : List Row4} (h0 : ops.size = 3 * R.length + 3)
    (h1 : ops.toList = ops.toList.zipIdx.map fun p => { p.1 with dst := litDst R p.2, op := litOp tm tk tv R p.2, guard := none })
    (h2 : (ops.toList.zipIdx.all fun p => litEdges R p.2 p.1) = true) : LitOps ops tm tk tv R := by
  have hz : ∀ (i : Nat) (o : Oper), ops[i]? = some o → (ops.toList.zipIdx)[i]? = some (o, i) := by
    intro i o h
    rw [List.getElem?_zipIdx, Array.getElem?_toList, h]
    simp
  have at1 : ∀ (i : Nat) (o : Oper), ops[i]? = some o → o.dst = litDst R i ∧ o.op = litOp tm tk tv R i ∧ o.guard = none := by
    intro i o h
    have e : ops.toList[i]? = some o := by rw [Array.getElem?_toList]; exact h
    rw [h1, List.getElem?_map, hz i o h] at e
    simp only [Option.map_some, Option.some.injEq] at e
    rw [← e]
    exact ⟨rfl, rfl, rfl⟩
  have at2 : ∀ (i : Nat) (o : Oper), ops[i]? = some o → litEdges R i o = true := by
    intro i o h
    exact List.all_eq_true.1 h2 _ (List.mem_of_getElem? (hz i o h))
  have ex : ∀ i, i < 3 * R.length + 3 → ∃ o, ops[i]? = some o := fun i hi => ⟨_, Array.getElem?_eq_getElem (by omega)⟩
  have gd : ∀ (j : Nat) (r : Row4), R[j]? = some r → R.getD j (0, 0, 0, 0) = r := by intro j r h; simp [h]
  refine ⟨h0, ?_, ?_, ?_, ?_, ?_, ?_, ?_⟩
  · obtain ⟨o, ho⟩ := ex 0 (by omega)
    obtain ⟨a1, a2, a3⟩ := at1 0 o ho
    exact ⟨o, ho, a1, a2, a3⟩
  · intro j r hr
    have hj := (List.getElem?_eq_some_iff.1 hr).1
    obtain ⟨o, ho⟩ := ex (3 * j + 1) (by omega)
    obtain ⟨a1, a2, a3⟩ := at1 _ o ho
    unfold litDst at a1
    unfold litOp at a2
    rw [if_neg (by omega), if_neg (by omega), if_neg (by omega), if_pos (by omega)] at a1 a2
    rw [show (3 * j + 1 - 1) / 3 = j by omega] at a1 a2
    rw [gd j r hr] at a2
    exact ⟨o, ho, a1, a2, a3⟩
  · intro j r hr
    have hj := (List.getElem?_eq_some_iff.1 hr).1
    obtain ⟨o, ho⟩ := ex (3 * j + 2) (by omega)
    obtain ⟨a1, a2, a3⟩ := at1 _ o ho
    unfold litDst at a1
    unfold litOp at a2
    rw [if_neg (by omega), if_neg (by omega), if_neg (by omega), if_neg (by omega), if_pos (by omega)] at a1 a2
    rw [show (3 * j + 2 - 1) / 3 = j by omega] at a1 a2
    rw [gd j r hr] at a2
    exact ⟨o, ho, a1, a2, a3⟩
  · intro j r hr
    have hj := (List.getElem?_eq_some_iff.1 hr).1
    obtain ⟨o, ho⟩ := ex (3 * j + 3) (by omega)
    obtain ⟨a1, a2, a3⟩ := at1 _ o ho
    have a4 := at2 _ o ho
    unfold litDst at a1
    unfold litOp at a2
    unfold litEdges at a4
    rw [if_neg (by omega), if_neg (by omega), if_neg (by omega), if_neg (by omega), if_neg (by omega)] at a1 a2
    rw [if_neg (by omega), if_neg (by omega), if_neg (by omega), if_pos (by omega)] at a4
    rw [show (3 * j + 3 - 1) / 3 = j by omega] at a2 a4
    simp only [Bool.and_eq_true] at a4
    obtain ⟨_, ⟨b1, b2⟩, b3⟩ := a4
    exact ⟨o, ho, a1, a2, a3, edgeTo_spec b1, edgeTo_spec b2, edgeTo_spec b3⟩
  · obtain ⟨o, ho⟩ := ex (3 * R.length + 1) (by omega)
    obtain ⟨a1, a2, a3⟩ := at1 _ o ho
    have a4 := at2 _ o ho
    unfold litDst at a1
    unfold litOp at a2
    unfold litEdges at a4
    rw [if_neg (by omega), if_pos rfl] at a1 a2 a4
    simp only [Bool.and_eq_true] at a4
    exact ⟨o, ho, a1, a2, a3, edgeTo_spec a4.2⟩
  · obtain ⟨o, ho⟩ := ex (3 * R.length + 2) (by omega)
    obtain ⟨a1, a2, a3⟩ := at1 _ o ho
    have a4 := at2 _ o ho
    unfold litDst at a1
    unfold litOp at a2
    unfold litEdges at a4
    rw [if_neg (by omega), if_neg (by omega), if_pos rfl] at a1 a2 a4
    simp only [Bool.and_eq_true] at a4
    exact ⟨o, ho, a1, a2, a3, edgeTo_spec a4.2⟩
  · intro i o ho e he hb
    have a4 := at2 _ o ho
    unfold litEdges at a4
    simp only [Bool.and_eq_true] at a4
    have := Array.all_eq_true_iff_forall_mem.1 a4.1 e he
    simpa [hb] using this
end Go.Proofs.YtcfnhjpmihngdaaGreat
