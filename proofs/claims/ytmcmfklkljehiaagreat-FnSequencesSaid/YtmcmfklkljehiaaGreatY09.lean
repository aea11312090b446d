/- The rules for classes: the map that the program fills, in whatever order. -/
import Derived.Test.YtmcmfklkljehiaaGreatY01
import Derived.Maps.RangeWalk
import Derived.Test.YtmcmfklkljehiaaGreatY03
import Derived.DeepKeys4
import Derived.WideKeyArgs2
namespace Go.Proofs.YtmcmfklkljehiaaGreat
open Go.RowKit Go.Maps

/-- A map literal's entry: its key and its element. -/
abbrev Ent := Value × Value

/-- b is a map whose entries are those of L that S takes. -/
structure Mp (w : World) (b : Nat) (L : List Ent) (S : Nat → Bool) (es : Array MapEntry) (clock : Nat) : Prop where
  heap : w.heap[b]? = some (.map es clock)
  born : ∀ e ∈ es.toList, e.born < clock
  nodup : (es.toList.map (·.born)).Nodup
  mem : ∀ e ∈ es.toList, ∃ j r, L[j]? = some r ∧ S j = true ∧ e.key = r.1 ∧ e.val = r.2
  all : ∀ j r, L[j]? = some r → S j = true → ∃ e ∈ es.toList, e.key = r.1 ∧ e.val = r.2

theorem Mp.lt {w : World} {b : Nat} {L : List Ent} {S : Nat → Bool} {es : Array MapEntry} {clock : Nat} (h : Mp w b L S es clock) : b < w.heap.size := (Array.getElem?_eq_some_iff.1 h.heap).1

/-- One entry more. -/
theorem run_insert {P : Program} {t k e : TypeId} {w : World} {b : Nat} {L : List Ent} {S : Nat → Bool} {es : Array MapEntry} {clock : Nat} (h : Mp w b L S es clock)
    (K : Keyed P k) (ht : P.underlying t = some (.map k e)) (hk : ∀ r ∈ L, ∃ l, keyOf P k r.1 = some l) (hd : L.Pairwise (fun p q => p.1 ≠ q.1)) {j : Nat} {r : Ent} (hj : L[j]? = some r) (hS : S j = false) :
    ∃ w', (Instr.mapUpdate t (.map (some b)) r.1 r.2).run P w = .ok () w' ∧ Mp w' b L (fun i => S i || i == j) (es.push ⟨r.1, r.2, clock⟩) (clock + 1) ∧ w.grownBy w' (some b) ∧ w'.heap.size = w.heap.size := by
  have hne : ∀ x ∈ es.toList, x.key ≠ r.1 := by
    intro x hx
    obtain ⟨i, q, hi, hSi, hxk, _⟩ := h.mem x hx
    rw [hxk]
    have hij : i ≠ j := by rintro rfl; rw [hSi] at hS; cases hS
    rw [List.pairwise_iff_getElem] at hd
    obtain ⟨hi1, hi2⟩ := List.getElem?_eq_some_iff.1 hi
    obtain ⟨hj1, hj2⟩ := List.getElem?_eq_some_iff.1 hj
    rcases Nat.lt_or_gt_of_ne hij with hlt | hgt
    · have := hd i j hi1 hj1 hlt; rwa [hi2, hj2] at this
    · have := hd j i hj1 hi1 hgt; rw [hi2, hj2] at this; exact this.symm
  have hkeys : ∀ x ∈ es.toList, ∃ l, keyOf P k x.key = some l := by
    intro x hx
    obtain ⟨i, q, hi, _, hxk, _⟩ := h.mem x hx
    rw [hxk]
    exact hk q (List.mem_of_getElem? hi)
  obtain ⟨l, hl⟩ := hk r (List.mem_of_getElem? hj)
  have hfind : (Instr.findKey k r.1 es.toList).run P w = .ok none w := by
    rcases K.find w hl es.toList hkeys with ⟨h1, _⟩ | ⟨_, x, _, h2, h3⟩
    · exact h1
    · exact absurd h3 (hne x (List.mem_of_getElem? h2))
  have hset := MapKept.run_setObj_map (P := P) (Obj.map (es.push ⟨r.1, r.2, clock⟩) (clock + 1)) h.heap
  refine ⟨Go.ChangeMaps.setBlock w b (.map (es.push ⟨r.1, r.2, clock⟩) (clock + 1)), ?_, ?_, ?_, ?_⟩
  · simp [Instr.mapUpdate, run_underlying ht, MapKept.run_getObj_map h.heap, K.check w false hl, hfind, MapKept.run_setObj_map _ h.heap, Result.andThen, Go.ChangeMaps.setBlock]
  · refine ⟨Go.ChangeMaps.heap_setBlock_same h.heap _, ?_, ?_, ?_, ?_⟩
    · intro x hx
      simp only [Array.toList_push, List.mem_append, List.mem_singleton] at hx
      rcases hx with hx | rfl
      · have := h.born x hx; omega
      · simp
    · simp only [Array.toList_push, List.map_append, List.map_cons, List.map_nil]
      rw [List.nodup_append]
      refine ⟨h.nodup, by simp, ?_⟩
      intro a ha c hc
      obtain ⟨x, hx, rfl⟩ := List.mem_map.1 ha
      simp only [List.mem_singleton] at hc
      subst hc
      have := h.born x hx
      omega
    · intro x hx
      simp only [Array.toList_push, List.mem_append, List.mem_singleton] at hx
      rcases hx with hx | rfl
      · obtain ⟨i, q, hi, hSi, h1, h2⟩ := h.mem x hx
        exact ⟨i, q, hi, by simp [hSi], h1, h2⟩
      · exact ⟨j, r, hj, by simp, rfl, rfl⟩
    · intro i q hi hSi
      simp only [Bool.or_eq_true, beq_iff_eq] at hSi
      rcases hSi with hSi | rfl
      · obtain ⟨x, hx, h1, h2⟩ := h.all i q hi hSi
        exact ⟨x, by simp only [Array.toList_push, List.mem_append]; exact .inl hx, h1, h2⟩
      · rw [hj] at hi
        cases hi
        exact ⟨⟨r.1, r.2, clock⟩, by simp, rfl, rfl⟩
  · exact ⟨rfl, rfl, rfl, by simp [Go.ChangeMaps.setBlock], fun i _ hi => Go.ChangeMaps.heap_setBlock_other h.heap _ (fun e => hi (by rw [e]))⟩
  · simp [Go.ChangeMaps.setBlock]

/-! ### any order -/
theorem lget (l : Array Bool) (i j : Nat) (h : i < l.size) : (l.setIfInBounds i true).getD j false = (decide (i = j) || l.getD j false) := by
  simp only [Array.getD_eq_getD_getElem?, Array.getElem?_setIfInBounds]
  by_cases e : i = j
  · subst e; simp [h]
  · simp [e]
theorem tget (t : Array Value) (i j : Nat) (v : Value) (h : i < t.size) : (t.setIfInBounds i v).getD j undef = if i = j then v else t.getD j undef := by
  simp only [Array.getD_eq_getD_getElem?, Array.getElem?_setIfInBounds]
  by_cases e : i = j
  · subst e; simp [h]
  · simp [e]

def leftB (l : Array Bool) : Nat := l.toList.countP (fun b => b == false)
theorem leftB_set (l : Array Bool) (i : Nat) (h : l.getD i true = false) : leftB (l.setIfInBounds i true) + 1 = leftB l := by
  have hi : i < l.toList.length := by
    rcases Nat.lt_or_ge i l.size with h1 | h1
    · simpa using h1
    · simp [Array.getD_eq_getD_getElem?, Array.getElem?_eq_none h1] at h
  have hv : l.toList[i] = false := by
    have hi' : i < l.size := by simpa using hi
    simp [Array.getD_eq_getD_getElem?, Array.getElem?_eq_getElem hi'] at h
    simpa using h
  unfold leftB
  rw [Array.toList_setIfInBounds, List.countP_set hi, hv]
  have : 0 < l.toList.countP (fun b => b == false) := List.countP_pos_iff.2 ⟨false, by rw [← hv]; exact List.getElem_mem hi, by simp⟩
  rw [if_pos (by simp), if_neg (by simp)]
  omega

theorem wpAny_inv {P : Program} {md : Region.Mode} {ops : Array Oper} {Q : Exit → Act → World → Prop} (Inv : Array Bool → Act → World → Prop)
    (hstep : ∀ listed a w i, Inv listed a w → i ∈ Region.ready md ops listed → wpOp P ops Q i (Inv (listed.setIfInBounds i true)) a w)
    (hdone : ∀ listed a w, Inv listed a w → Region.ready md ops listed = [] → Q .normal a w) :
    ∀ (fuel : Nat) (listed : Array Bool) (a : Act) (w : World), leftB listed ≤ fuel → listed.size = ops.size → Inv listed a w → wpAny P md ops Q fuel listed a w
  | 0, listed, a, w, hl, hs, h => by
    have hr : Region.ready md ops listed = [] := by
      rw [List.eq_nil_iff_forall_not_mem]
      intro i hi
      have := leftB_set listed i (mem_ready.1 hi).1
      omega
    exact ⟨hr, hdone _ _ _ h hr⟩
  | fuel + 1, listed, a, w, hl, hs, h =>
    ⟨hdone _ _ _ h, fun i hi => wpOp_mono (fun a' w' h' => wpAny_inv Inv hstep hdone fuel _ a' w' (by have := leftB_set listed i (mem_ready.1 hi).1; omega) (by simpa using hs) h') (hstep _ _ _ _ h hi)⟩

theorem leftB_start (n : Nat) : leftB (Array.replicate n false) = n := by
  unfold leftB
  rw [Array.toList_replicate, List.countP_replicate]
  simp

/-- Where nothing is left that may come up, all has come up. -/
theorem all_listed {md : Region.Mode} {ops : Array Oper} {listed : Array Bool} (hs : listed.size = ops.size) (hac : ∀ i o, ops[i]? = some o → ∀ e ∈ o.after, Region.binds md e = true → e.on < i)
    (hr : Region.ready md ops listed = []) : ∀ i, i < ops.size → listed.getD i false = true := by
  intro i
  induction i using Nat.strongRecOn with
  | ind i ih =>
    intro hi
    cases hl : listed.getD i false
    · exfalso
      have hl' : listed.getD i true = false := by
        have hi' : i < listed.size := by omega
        simp only [Array.getD_eq_getD_getElem?, Array.getElem?_eq_getElem hi', Option.getD_some] at hl ⊢
        exact hl
      have : i ∈ Region.ready md ops listed := mem_ready.2 ⟨hl', ops[i], Array.getElem?_eq_getElem hi, fun e he hb => ih e.on (hac i _ (Array.getElem?_eq_getElem hi) e he hb) (by have := hac i _ (Array.getElem?_eq_getElem hi) e he hb; omega)⟩
      rw [hr] at this
      cases this
    · rfl

/-! ### the region of a literal whose keys and elements are structs of two numbers -/
abbrev Row4 := Int × Int × Int × Int
def rKey (r : Row4) : Value := .agg #[.int .i64 r.1, .int .i64 r.2.1]
def rVal (r : Row4) : Value := .agg #[.int .i64 r.2.2.1, .int .i64 r.2.2.2]
def rEnt (r : Row4) : Ent := (rKey r, rVal r)

structure LitOps (ops : Array Oper) (tm tk tv : TypeId) (R : List Row4) : Prop where
  size : ops.size = 3 * R.length + 3
  make : ∃ o, ops[0]? = some o ∧ o.dst = some 1 ∧ o.op = .makeMap tm none ∧ o.guard = none
  key : ∀ j r, R[j]? = some r → ∃ o, ops[3 * j + 1]? = some o ∧ o.dst = some (2 * j + 2) ∧ o.op = .build tk #[(0, .const (.int .i64 r.1)), (1, .const (.int .i64 r.2.1))] ∧ o.guard = none
  val : ∀ j r, R[j]? = some r → ∃ o, ops[3 * j + 2]? = some o ∧ o.dst = some (2 * j + 3) ∧ o.op = .build tv #[(0, .const (.int .i64 r.2.2.1)), (1, .const (.int .i64 r.2.2.2))] ∧ o.guard = none
  ins : ∀ j r, R[j]? = some r → ∃ o, ops[3 * j + 3]? = some o ∧ o.dst = none ∧ o.op = .insert tm (.tmp 1) (.tmp (2 * j + 2)) (.tmp (2 * j + 3)) ∧ o.guard = none ∧
    (∃ e ∈ o.after, Region.binds .any e = true ∧ e.on = 0) ∧ (∃ e ∈ o.after, Region.binds .any e = true ∧ e.on = 3 * j + 1) ∧ (∃ e ∈ o.after, Region.binds .any e = true ∧ e.on = 3 * j + 2)
  mov : ∃ o, ops[3 * R.length + 1]? = some o ∧ o.dst = some (2 * R.length + 2) ∧ o.op = .move (.tmp 1) ∧ o.guard = none ∧ (∃ e ∈ o.after, Region.binds .any e = true ∧ e.on = 0)
  asg : ∃ o, ops[3 * R.length + 2]? = some o ∧ o.dst = some 0 ∧ o.op = .assign (.tmp (2 * R.length + 2)) ∧ o.guard = none ∧ (∃ e ∈ o.after, Region.binds .any e = true ∧ e.on = 3 * R.length + 1)
  acyc : ∀ i o, ops[i]? = some o → ∀ e ∈ o.after, Region.binds .any e = true → e.on < i

structure LitInv (ops : Array Oper) (R : List Row4) (W : World) (N : Nat) (listed : Array Bool) (a : Act) (w : World) : Prop where
  lsz : listed.size = ops.size
  tsz : a.tmps.size = N
  dfr : a.defers = []
  key : ∀ j r, R[j]? = some r → listed.getD (3 * j + 1) false = true → a.tmps.getD (2 * j + 2) undef = rKey r
  val : ∀ j r, R[j]? = some r → listed.getD (3 * j + 2) false = true → a.tmps.getD (2 * j + 3) undef = rVal r
  start : listed.getD 0 false = false → w = W ∧ ∀ j, j < R.length → listed.getD (3 * j + 3) false = false
  made : listed.getD 0 false = true → a.tmps.getD 1 undef = .map (some W.heap.size) ∧ Below W.heap.size W w ∧ ∃ es clock, Mp w W.heap.size (R.map rEnt) (fun j => decide (j < R.length) && listed.getD (3 * j + 3) false) es clock
  mov : listed.getD (3 * R.length + 1) false = true → a.tmps.getD (2 * R.length + 2) undef = .map (some W.heap.size)
  asg : listed.getD (3 * R.length + 2) false = true → a.tmps.getD 0 undef = .map (some W.heap.size)

theorem ready_in {md : Region.Mode} {ops : Array Oper} {listed : Array Bool} {i : Nat} (h : i ∈ Region.ready md ops listed) : i < ops.size := by
  obtain ⟨_, o, ho, _⟩ := mem_ready.1 h
  exact (Array.getElem?_eq_some_iff.1 ho).1

/-- An operation that yields a value and leaves the world. -/
theorem wpOp_yield {P : Program} {ops : Array Oper} {Q : Exit → Act → World → Prop} {i : Nat} {o : Oper} {K : Act → World → Prop} {a : Act} {w w' : World} {v : Value} (ho : ops[i]? = some o) (hg : o.guard = none)
    (hr : (execOp a.eval o).run P w = .ok (.value v) w') (h : K (a.put o.dst v) w') : wpOp P ops Q i K a w := by
  refine wpOp_step ho fun K' hK => ?_
  simp only [Region.wanted, hg, if_true]
  unfold Oper.wp
  rw [hr]
  exact hK _ _ h
theorem wpOp_skip {P : Program} {ops : Array Oper} {Q : Exit → Act → World → Prop} {i : Nat} {o : Oper} {K : Act → World → Prop} {a : Act} {w w' : World} (ho : ops[i]? = some o) (hg : o.guard = none)
    (hr : (execOp a.eval o).run P w = .ok .skip w') (h : K (a.put o.dst undef) w') : wpOp P ops Q i K a w := by
  refine wpOp_step ho fun K' hK => ?_
  simp only [Region.wanted, hg, if_true]
  unfold Oper.wp
  rw [hr]
  exact hK _ _ h

theorem getD_ft {l : Array Bool} {i : Nat} (h : l.getD i true = false) : i < l.size ∧ l.getD i false = false := by
  rcases Nat.lt_or_ge i l.size with h1 | h1
  · refine ⟨h1, ?_⟩
    simp only [Array.getD_eq_getD_getElem?, Array.getElem?_eq_getElem h1, Option.getD_some] at h ⊢
    exact h
  · simp [Array.getD_eq_getD_getElem?, Array.getElem?_eq_none h1] at h

section
variable {P : Program} {ops : Array Oper} {tm tk tv te : TypeId} {R : List Row4}

theorem lit_step (L : LitOps ops tm tk tv R) (K : Keyed P tk) (ht : P.underlying tm = some (.map tk te)) (hk : ∀ r ∈ R, ∃ l, keyOf P tk (rKey r) = some l) (hd : R.Pairwise (fun p q => rKey p ≠ rKey q))
    (bk : ∀ (x y : Int) (w : World), (Instr.build tk #[(0, .int .i64 x), (1, .int .i64 y)]).run P w = .ok (.agg #[.int .i64 x, .int .i64 y]) w)
    (bv : ∀ (x y : Int) (w : World), (Instr.build tv #[(0, .int .i64 x), (1, .int .i64 y)]).run P w = .ok (.agg #[.int .i64 x, .int .i64 y]) w)
    {W : World} {N : Nat} (hN : 2 * R.length + 3 ≤ N) {Q : Exit → Act → World → Prop} (listed : Array Bool) (a : Act) (w : World) (i : Nat) (h : LitInv ops R W N listed a w) (hi : i ∈ Region.ready .any ops listed) :
    wpOp P ops Q i (LitInv ops R W N (listed.setIfInBounds i true)) a w := by
  have hlt := ready_in hi
  obtain ⟨hun, o, ho, hall⟩ := mem_ready.1 hi
  obtain ⟨his, hun'⟩ := getD_ft hun
  have hsz := L.size
  have hlsz := h.lsz
  have htsz := h.tsz
  have hlen : (listed.setIfInBounds i true).size = ops.size := by simpa using hlsz
  have lg := fun j => lget listed i j his
  have parts : i = 0 ∨ (∃ j, j < R.length ∧ i = 3 * j + 1) ∨ (∃ j, j < R.length ∧ i = 3 * j + 2) ∨ (∃ j, j < R.length ∧ i = 3 * j + 3) ∨ i = 3 * R.length + 1 ∨ i = 3 * R.length + 2 := by
    rcases (by omega : i = 0 ∨ i = 3 * R.length + 1 ∨ i = 3 * R.length + 2 ∨ (i = 3 * ((i - 1) / 3) + 1 ∧ (i - 1) / 3 < R.length) ∨ (i = 3 * ((i - 1) / 3) + 2 ∧ (i - 1) / 3 < R.length) ∨ (i = 3 * ((i - 1) / 3) + 3 ∧ (i - 1) / 3 < R.length)) with e | e | e | ⟨e, e'⟩ | ⟨e, e'⟩ | ⟨e, e'⟩
    · exact .inl e
    · exact .inr (.inr (.inr (.inr (.inl e))))
    · exact .inr (.inr (.inr (.inr (.inr e))))
    · exact .inr (.inl ⟨_, e', e⟩)
    · exact .inr (.inr (.inl ⟨_, e', e⟩))
    · exact .inr (.inr (.inr (.inl ⟨_, e', e⟩)))
  rcases parts with rfl | ⟨j, hj, rfl⟩ | ⟨j, hj, rfl⟩ | ⟨j, hj, rfl⟩ | rfl | rfl
  · -- the map is made
    obtain ⟨o', ho', hdst, hop, hg⟩ := L.make
    rw [ho'] at ho; cases ho
    obtain ⟨rfl, hnone⟩ := h.start hun'
    refine wpOp_yield (v := .map (some w.heap.size)) (w' := w.alloc (.map #[] 0)) ho' hg (by simp [execOp, hop, run_makeMap, Result.andThen]) ?_
    rw [hdst]
    have tg := fun j v => tget a.tmps 1 j v (by omega)
    refine ⟨hlen, by simpa [Act.put] using htsz, h.dfr, ?_, ?_, ?_, ?_, ?_, ?_⟩
    · intro j r hr hl
      rw [lg, decide_eq_false (by omega), Bool.false_or] at hl
      show (a.tmps.setIfInBounds 1 _).getD _ undef = _
      rw [tg, if_neg (by omega)]; exact h.key j r hr hl
    · intro j r hr hl
      rw [lg, decide_eq_false (by omega), Bool.false_or] at hl
      show (a.tmps.setIfInBounds 1 _).getD _ undef = _
      rw [tg, if_neg (by omega)]; exact h.val j r hr hl
    · intro hl; rw [lg] at hl; simp at hl
    · intro _
      refine ⟨by show (a.tmps.setIfInBounds 1 _).getD _ undef = _; rw [tg, if_pos rfl], (Below.refl _ _).alloc (Nat.le_refl _) _, #[], 0, (MapKept.heap_alloc w _).1, by simp, by simp, by simp, ?_⟩
      intro j r hr hS
      simp only [Bool.and_eq_true, decide_eq_true_eq] at hS
      obtain ⟨hjl, hS⟩ := hS
      rw [lg, decide_eq_false (by omega), Bool.false_or, hnone j hjl] at hS
      cases hS
    · intro hl
      rw [lg, decide_eq_false (by omega), Bool.false_or] at hl
      show (a.tmps.setIfInBounds 1 _).getD _ undef = _
      rw [tg, if_neg (by omega)]; exact h.mov hl
    · intro hl
      rw [lg, decide_eq_false (by omega), Bool.false_or] at hl
      show (a.tmps.setIfInBounds 1 _).getD _ undef = _
      rw [tg, if_neg (by omega)]; exact h.asg hl
  · -- a key
    obtain ⟨r, hr⟩ : ∃ r, R[j]? = some r := ⟨_, List.getElem?_eq_getElem hj⟩
    obtain ⟨o', ho', hdst, hop, hg⟩ := L.key j r hr
    rw [ho'] at ho; cases ho
    refine wpOp_yield (v := rKey r) (w' := w) ho' hg (by simp [execOp, hop, Act.eval, bk, Result.andThen, rKey]) ?_
    rw [hdst]
    have tg := fun k v => tget a.tmps (2 * j + 2) k v (by omega)
    refine ⟨hlen, by simpa [Act.put] using htsz, h.dfr, ?_, ?_, ?_, ?_, ?_, ?_⟩
    · intro j' r' hr' hl
      show (a.tmps.setIfInBounds _ _).getD _ undef = _
      rw [tg]
      by_cases e : j = j'
      · subst e; rw [if_pos rfl]; rw [hr] at hr'; cases hr'; rfl
      · rw [if_neg (by omega)]; rw [lg, decide_eq_false (by omega), Bool.false_or] at hl; exact h.key j' r' hr' hl
    · intro j' r' hr' hl
      rw [lg, decide_eq_false (by omega), Bool.false_or] at hl
      show (a.tmps.setIfInBounds _ _).getD _ undef = _
      rw [tg, if_neg (by omega)]; exact h.val j' r' hr' hl
    · intro hl
      rw [lg, decide_eq_false (by omega), Bool.false_or] at hl
      obtain ⟨hw, hnone⟩ := h.start hl
      exact ⟨hw, fun j' hj' => by rw [lg, decide_eq_false (by omega), Bool.false_or]; exact hnone j' hj'⟩
    · intro hl
      rw [lg, decide_eq_false (by omega), Bool.false_or] at hl
      obtain ⟨h1, h2, es, clock, hm⟩ := h.made hl
      refine ⟨by show (a.tmps.setIfInBounds _ _).getD _ undef = _; rw [tg, if_neg (by omega)]; exact h1, h2, es, clock, ?_⟩
      have : (fun k => decide (k < R.length) && (listed.setIfInBounds (3 * j + 1) true).getD (3 * k + 3) false) = (fun k => decide (k < R.length) && listed.getD (3 * k + 3) false) := by
        funext k; rw [lg, decide_eq_false (p := 3 * j + 1 = 3 * k + 3) (by omega), Bool.false_or]
      rw [this]; exact hm
    · intro hl
      rw [lg, decide_eq_false (by omega), Bool.false_or] at hl
      show (a.tmps.setIfInBounds _ _).getD _ undef = _
      rw [tg, if_neg (by omega)]; exact h.mov hl
    · intro hl
      rw [lg, decide_eq_false (by omega), Bool.false_or] at hl
      show (a.tmps.setIfInBounds _ _).getD _ undef = _
      rw [tg, if_neg (by omega)]; exact h.asg hl
  · -- an element
    obtain ⟨r, hr⟩ : ∃ r, R[j]? = some r := ⟨_, List.getElem?_eq_getElem hj⟩
    obtain ⟨o', ho', hdst, hop, hg⟩ := L.val j r hr
    rw [ho'] at ho; cases ho
    refine wpOp_yield (v := rVal r) (w' := w) ho' hg (by simp [execOp, hop, Act.eval, bv, Result.andThen, rVal]) ?_
    rw [hdst]
    have tg := fun k v => tget a.tmps (2 * j + 3) k v (by omega)
    refine ⟨hlen, by simpa [Act.put] using htsz, h.dfr, ?_, ?_, ?_, ?_, ?_, ?_⟩
    · intro j' r' hr' hl
      rw [lg, decide_eq_false (by omega), Bool.false_or] at hl
      show (a.tmps.setIfInBounds _ _).getD _ undef = _
      rw [tg, if_neg (by omega)]; exact h.key j' r' hr' hl
    · intro j' r' hr' hl
      show (a.tmps.setIfInBounds _ _).getD _ undef = _
      rw [tg]
      by_cases e : j = j'
      · subst e; rw [if_pos rfl]; rw [hr] at hr'; cases hr'; rfl
      · rw [if_neg (by omega)]; rw [lg, decide_eq_false (by omega), Bool.false_or] at hl; exact h.val j' r' hr' hl
    · intro hl
      rw [lg, decide_eq_false (by omega), Bool.false_or] at hl
      obtain ⟨hw, hnone⟩ := h.start hl
      exact ⟨hw, fun j' hj' => by rw [lg, decide_eq_false (by omega), Bool.false_or]; exact hnone j' hj'⟩
    · intro hl
      rw [lg, decide_eq_false (by omega), Bool.false_or] at hl
      obtain ⟨h1, h2, es, clock, hm⟩ := h.made hl
      refine ⟨by show (a.tmps.setIfInBounds _ _).getD _ undef = _; rw [tg, if_neg (by omega)]; exact h1, h2, es, clock, ?_⟩
      have : (fun k => decide (k < R.length) && (listed.setIfInBounds (3 * j + 2) true).getD (3 * k + 3) false) = (fun k => decide (k < R.length) && listed.getD (3 * k + 3) false) := by
        funext k; rw [lg, decide_eq_false (p := 3 * j + 2 = 3 * k + 3) (by omega), Bool.false_or]
      rw [this]; exact hm
    · intro hl
      rw [lg, decide_eq_false (by omega), Bool.false_or] at hl
      show (a.tmps.setIfInBounds _ _).getD _ undef = _
      rw [tg, if_neg (by omega)]; exact h.mov hl
    · intro hl
      rw [lg, decide_eq_false (by omega), Bool.false_or] at hl
      show (a.tmps.setIfInBounds _ _).getD _ undef = _
      rw [tg, if_neg (by omega)]; exact h.asg hl
  · -- an entry
    obtain ⟨r, hr⟩ : ∃ r, R[j]? = some r := ⟨_, List.getElem?_eq_getElem hj⟩
    obtain ⟨o', ho', hdst, hop, hg, ⟨e0, he0, hb0, hon0⟩, ⟨e1, he1, hb1, hon1⟩, ⟨e2, he2, hb2, hon2⟩⟩ := L.ins j r hr
    rw [ho'] at ho; cases ho
    have l0 := hall e0 he0 hb0
    have l1 := hall e1 he1 hb1
    have l2 := hall e2 he2 hb2
    rw [hon0] at l0; rw [hon1] at l1; rw [hon2] at l2
    obtain ⟨h1, h2, es, clock, hm⟩ := h.made l0
    have k1 := h.key j r hr l1
    have k2 := h.val j r hr l2
    have hkm : ∀ q ∈ R.map rEnt, ∃ l, keyOf P tk q.1 = some l := by
      intro q hq
      obtain ⟨r', hr', rfl⟩ := List.mem_map.1 hq
      exact hk r' hr'
    have hdm : (R.map rEnt).Pairwise (fun p q => p.1 ≠ q.1) := by rw [List.pairwise_map]; exact hd
    obtain ⟨w', hrun, hm', hgr, hsz'⟩ := run_insert (P := P) hm K ht hkm hdm (j := j) (r := rEnt r) (by rw [List.getElem?_map, hr]; rfl) (by simp [hun'])
    refine wpOp_skip (w' := w') ho' hg (by simp only [execOp, hop, Act.eval, h1, k1, k2]; show ((Instr.mapUpdate tm (.map (some W.heap.size)) (rEnt r).1 (rEnt r).2 >>= fun _ => pure Next.skip).run P w) = _; rw [Sem.run_bind, hrun]; rfl) ?_
    rw [hdst]
    refine ⟨hlen, htsz, h.dfr, ?_, ?_, ?_, ?_, ?_, ?_⟩
    · intro j' r' hr' hl
      rw [lg, decide_eq_false (by omega), Bool.false_or] at hl
      exact h.key j' r' hr' hl
    · intro j' r' hr' hl
      rw [lg, decide_eq_false (by omega), Bool.false_or] at hl
      exact h.val j' r' hr' hl
    · intro hl
      rw [lg, decide_eq_false (by omega), Bool.false_or, l0] at hl
      cases hl
    · intro _
      refine ⟨h1, h2.grown hgr h2.size (fun g hg => by cases hg; exact Nat.le_refl _), es.push ⟨(rEnt r).1, (rEnt r).2, clock⟩, clock + 1, ?_⟩
      have : (fun k => decide (k < R.length) && (listed.setIfInBounds (3 * j + 3) true).getD (3 * k + 3) false) = (fun k => (decide (k < R.length) && listed.getD (3 * k + 3) false) || k == j) := by
        funext k
        rw [lg]
        by_cases e : k = j
        · subst e; simp [hj]
        · rw [decide_eq_false (p := 3 * j + 3 = 3 * k + 3) (by omega), Bool.false_or]
          have : (k == j) = false := by simpa using e
          rw [this, Bool.or_false]
      rw [this]; exact hm'
    · intro hl
      rw [lg, decide_eq_false (by omega), Bool.false_or] at hl
      exact h.mov hl
    · intro hl
      rw [lg, decide_eq_false (by omega), Bool.false_or] at hl
      exact h.asg hl
  · -- the value is taken
    obtain ⟨o', ho', hdst, hop, hg, ⟨e0, he0, hb0, hon0⟩⟩ := L.mov
    rw [ho'] at ho; cases ho
    have l0 := hall e0 he0 hb0
    rw [hon0] at l0
    obtain ⟨h1, h2, es, clock, hm⟩ := h.made l0
    refine wpOp_yield (v := .map (some W.heap.size)) (w' := w) ho' hg (by simp [execOp, hop, Act.eval, h1]) ?_
    rw [hdst]
    have tg := fun k v => tget a.tmps (2 * R.length + 2) k v (by omega)
    refine ⟨hlen, by simpa [Act.put] using htsz, h.dfr, ?_, ?_, ?_, ?_, ?_, ?_⟩
    · intro j' r' hr' hl
      have hj' := (List.getElem?_eq_some_iff.1 hr').1
      rw [lg, decide_eq_false (by omega), Bool.false_or] at hl
      show (a.tmps.setIfInBounds _ _).getD _ undef = _
      rw [tg, if_neg (by omega)]; exact h.key j' r' hr' hl
    · intro j' r' hr' hl
      have hj' := (List.getElem?_eq_some_iff.1 hr').1
      rw [lg, decide_eq_false (by omega), Bool.false_or] at hl
      show (a.tmps.setIfInBounds _ _).getD _ undef = _
      rw [tg, if_neg (by omega)]; exact h.val j' r' hr' hl
    · intro hl
      rw [lg, decide_eq_false (by omega), Bool.false_or, l0] at hl
      cases hl
    · intro _
      refine ⟨by show (a.tmps.setIfInBounds _ _).getD _ undef = _; rw [tg, if_neg (by omega)]; exact h1, h2, es, clock, ?_⟩
      have : (fun k => decide (k < R.length) && (listed.setIfInBounds (3 * R.length + 1) true).getD (3 * k + 3) false) = (fun k => decide (k < R.length) && listed.getD (3 * k + 3) false) := by
        funext k; rw [lg, decide_eq_false (p := 3 * R.length + 1 = 3 * k + 3) (by omega), Bool.false_or]
      rw [this]; exact hm
    · intro _
      show (a.tmps.setIfInBounds _ _).getD _ undef = _
      rw [tg, if_pos rfl]
    · intro hl
      rw [lg, decide_eq_false (by omega), Bool.false_or] at hl
      show (a.tmps.setIfInBounds _ _).getD _ undef = _
      rw [tg, if_neg (by omega)]; exact h.asg hl
  · -- the result
    obtain ⟨o', ho', hdst, hop, hg, ⟨e0, he0, hb0, hon0⟩⟩ := L.asg
    rw [ho'] at ho; cases ho
    have l0 := hall e0 he0 hb0
    rw [hon0] at l0
    have m1 := h.mov l0
    refine wpOp_yield (v := .map (some W.heap.size)) (w' := w) ho' hg (by simp [execOp, hop, Act.eval, m1]) ?_
    rw [hdst]
    have tg := fun k v => tget a.tmps 0 k v (by omega)
    refine ⟨hlen, by simpa [Act.put] using htsz, h.dfr, ?_, ?_, ?_, ?_, ?_, ?_⟩
    · intro j' r' hr' hl
      have hj' := (List.getElem?_eq_some_iff.1 hr').1
      rw [lg, decide_eq_false (by omega), Bool.false_or] at hl
      show (a.tmps.setIfInBounds _ _).getD _ undef = _
      rw [tg, if_neg (by omega)]; exact h.key j' r' hr' hl
    · intro j' r' hr' hl
      have hj' := (List.getElem?_eq_some_iff.1 hr').1
      rw [lg, decide_eq_false (by omega), Bool.false_or] at hl
      show (a.tmps.setIfInBounds _ _).getD _ undef = _
      rw [tg, if_neg (by omega)]; exact h.val j' r' hr' hl
    · intro hl
      rw [lg, decide_eq_false (by omega), Bool.false_or] at hl
      obtain ⟨hw, hnone⟩ := h.start hl
      exact ⟨hw, fun j' hj' => by rw [lg, decide_eq_false (by omega), Bool.false_or]; exact hnone j' hj'⟩
    · intro hl
      rw [lg, decide_eq_false (by omega), Bool.false_or] at hl
      obtain ⟨h1, h2, es, clock, hm⟩ := h.made hl
      refine ⟨by show (a.tmps.setIfInBounds _ _).getD _ undef = _; rw [tg, if_neg (by omega)]; exact h1, h2, es, clock, ?_⟩
      have : (fun k => decide (k < R.length) && (listed.setIfInBounds (3 * R.length + 2) true).getD (3 * k + 3) false) = (fun k => decide (k < R.length) && listed.getD (3 * k + 3) false) := by
        funext k; rw [lg, decide_eq_false (p := 3 * R.length + 2 = 3 * k + 3) (by omega), Bool.false_or]
      rw [this]; exact hm
    · intro hl
      rw [lg, decide_eq_false (by omega), Bool.false_or] at hl
      show (a.tmps.setIfInBounds _ _).getD _ undef = _
      rw [tg, if_neg (by omega)]; exact h.mov hl
    · intro _
      show (a.tmps.setIfInBounds _ _).getD _ undef = _
      rw [tg, if_pos rfl]

/-- THE REGION: whatever the order, behind it slot 0 holds a new map with just these entries. -/
theorem wp_region_lit (L : LitOps ops tm tk tv R) (K : Keyed P tk) (ht : P.underlying tm = some (.map tk te)) (hk : ∀ r ∈ R, ∃ l, keyOf P tk (rKey r) = some l) (hd : R.Pairwise (fun p q => rKey p ≠ rKey q))
    (bk : ∀ (x y : Int) (w : World), (Instr.build tk #[(0, .int .i64 x), (1, .int .i64 y)]).run P w = .ok (.agg #[.int .i64 x, .int .i64 y]) w)
    (bv : ∀ (x y : Int) (w : World), (Instr.build tv #[(0, .int .i64 x), (1, .int .i64 y)]).run P w = .ok (.agg #[.int .i64 x, .int .i64 y]) w)
    {id : Nat} {Q : Exit → Act → World → Prop} {a : Act} {w : World} (hm : P.follows .mixedOrders = true) (hN : 2 * R.length + 3 ≤ a.tmps.size) (hdf : a.defers = [])
    (h : ∀ a' w', a'.tmps.size = a.tmps.size → a'.defers = [] → a'.tmps.getD 0 undef = .map (some w.heap.size) → Below w.heap.size w w' → (∃ es clock, Mp w' w.heap.size (R.map rEnt) (fun j => decide (j < R.length)) es clock) → Q .normal a' w') :
    (Code.region id ops true).wp P Q a w := by
  refine wp_region_any hm (wpAny_inv (LitInv ops R (w.drew) a.tmps.size) (fun listed a' w' i hI hi => lit_step L K ht hk hd bk bv hN listed a' w' i hI hi) ?_ _ _ _ _ (by rw [leftB_start]; exact Nat.le_refl _) (by simp) ?_)
  · intro listed a' w' hI hr
    have hall := all_listed hI.lsz L.acyc hr
    have hsz := L.size
    obtain ⟨_, h2, es, clock, hmp⟩ := hI.made (hall 0 (by omega))
    refine h a' w' hI.tsz hI.dfr (hI.asg (hall _ (by omega))) ⟨h2.os, h2.tape, h2.output, h2.size, h2.block⟩ ⟨es, clock, ?_⟩
    have : (fun j => decide (j < R.length)) = (fun j => decide (j < R.length) && listed.getD (3 * j + 3) false) := by
      funext j
      by_cases e : j < R.length
      · rw [hall (3 * j + 3) (by omega), Bool.and_true]
      · rw [decide_eq_false e]; rfl
    rw [this]; exact hmp
  · have z : ∀ i, (Array.replicate ops.size false).getD i false = false := by
      intro i
      simp only [Array.getD_eq_getD_getElem?, Array.getElem?_replicate]
      split <;> rfl
    exact ⟨by simp, rfl, hdf, fun j r _ hl => (by rw [z] at hl; cases hl), fun j r _ hl => (by rw [z] at hl; cases hl), fun _ => ⟨rfl, fun j _ => z _⟩, fun hl => (by rw [z] at hl; cases hl), fun hl => (by rw [z] at hl; cases hl), fun hl => (by rw [z] at hl; cases hl)⟩
end

/-! ### the region's form, by a run of the kernel -/
def litDst (R : List Row4) (i : Nat) : Option Tmp :=
  if i = 0 then some 1 else if i = 3 * R.length + 1 then some (2 * R.length + 2) else if i = 3 * R.length + 2 then some 0
  else if (i - 1) % 3 = 0 then some (2 * ((i - 1) / 3) + 2) else if (i - 1) % 3 = 1 then some (2 * ((i - 1) / 3) + 3) else none
def litOp (tm tk tv : TypeId) (R : List Row4) (i : Nat) : Op :=
  if i = 0 then .makeMap tm none else if i = 3 * R.length + 1 then .move (.tmp 1) else if i = 3 * R.length + 2 then .assign (.tmp (2 * R.length + 2))
  else if (i - 1) % 3 = 0 then .build tk #[(0, .const (.int .i64 (R.getD ((i - 1) / 3) (0, 0, 0, 0)).1)), (1, .const (.int .i64 (R.getD ((i - 1) / 3) (0, 0, 0, 0)).2.1))]
  else if (i - 1) % 3 = 1 then .build tv #[(0, .const (.int .i64 (R.getD ((i - 1) / 3) (0, 0, 0, 0)).2.2.1)), (1, .const (.int .i64 (R.getD ((i - 1) / 3) (0, 0, 0, 0)).2.2.2))]
  else .insert tm (.tmp 1) (.tmp (2 * ((i - 1) / 3) + 2)) (.tmp (2 * ((i - 1) / 3) + 3))
def edgeTo (o : Oper) (d : Nat) : Bool := o.after.any fun e => Region.binds .any e && e.on == d
def litEdges (R : List Row4) (i : Nat) (o : Oper) : Bool :=
  (o.after.all fun e => !Region.binds .any e || decide (e.on < i)) &&
  (if i = 0 then true else if i = 3 * R.length + 1 then edgeTo o 0 else if i = 3 * R.length + 2 then edgeTo o (3 * R.length + 1)
   else if (i - 1) % 3 = 2 then edgeTo o 0 && edgeTo o (3 * ((i - 1) / 3) + 1) && edgeTo o (3 * ((i - 1) / 3) + 2) else true)

theorem edgeTo_spec {o : Oper} {d : Nat} (h : edgeTo o d = true) : ∃ e ∈ o.after, Region.binds .any e = true ∧ e.on = d := by
  obtain ⟨e, he, h1⟩ := Array.any_eq_true'.1 h
  simp only [Bool.and_eq_true, beq_iff_eq] at h1
  exact ⟨e, he, h1⟩

theorem litOps_of {ops : Array Oper} {tm tk tv : TypeId} {R : List Row4} (h0 : ops.size = 3 * R.length + 3)
    (h1 : ops.toList = ops.toList.zipIdx.map fun p => { p.1 with dst := litDst R p.2, op := litOp tm tk tv R p.2, guard := none })
    (h2 : (ops.toList.zipIdx.all fun p => litEdges R p.2 p.1) = true) : LitOps ops tm tk tv R := by
  have hz : ∀ (i : Nat) (o : Oper), ops[i]? = some o → (ops.toList.zipIdx)[i]? = some (o, i) := by
    intro i o h
    rw [List.getElem?_zipIdx, Array.getElem?_toList, h]
    simp
  have at1 : ∀ (i : Nat) (o : Oper), ops[i]? = some o → o.dst = litDst R i ∧ o.op = litOp tm tk tv R i ∧ o.guard = none := by
    intro i o h
    have e : ops.toList[i]? = some o := by rw [Array.getElem?_toList]; exact h
    rw [h1, List.getElem?_map, hz i o h] at e
    simp only [Option.map_some, Option.some.injEq] at e
    rw [← e]
    exact ⟨rfl, rfl, rfl⟩
  have at2 : ∀ (i : Nat) (o : Oper), ops[i]? = some o → litEdges R i o = true := by
    intro i o h
    exact List.all_eq_true.1 h2 _ (List.mem_of_getElem? (hz i o h))
  have ex : ∀ i, i < 3 * R.length + 3 → ∃ o, ops[i]? = some o := fun i hi => ⟨_, Array.getElem?_eq_getElem (by omega)⟩
  have gd : ∀ (j : Nat) (r : Row4), R[j]? = some r → R.getD j (0, 0, 0, 0) = r := by intro j r h; simp [h]
  refine ⟨h0, ?_, ?_, ?_, ?_, ?_, ?_, ?_⟩
  · obtain ⟨o, ho⟩ := ex 0 (by omega)
    obtain ⟨a1, a2, a3⟩ := at1 0 o ho
    exact ⟨o, ho, a1, a2, a3⟩
  · intro j r hr
    have hj := (List.getElem?_eq_some_iff.1 hr).1
    obtain ⟨o, ho⟩ := ex (3 * j + 1) (by omega)
    obtain ⟨a1, a2, a3⟩ := at1 _ o ho
    unfold litDst at a1
    unfold litOp at a2
    rw [if_neg (by omega), if_neg (by omega), if_neg (by omega), if_pos (by omega)] at a1 a2
    rw [show (3 * j + 1 - 1) / 3 = j by omega] at a1 a2
    rw [gd j r hr] at a2
    exact ⟨o, ho, a1, a2, a3⟩
  · intro j r hr
    have hj := (List.getElem?_eq_some_iff.1 hr).1
    obtain ⟨o, ho⟩ := ex (3 * j + 2) (by omega)
    obtain ⟨a1, a2, a3⟩ := at1 _ o ho
    unfold litDst at a1
    unfold litOp at a2
    rw [if_neg (by omega), if_neg (by omega), if_neg (by omega), if_neg (by omega), if_pos (by omega)] at a1 a2
    rw [show (3 * j + 2 - 1) / 3 = j by omega] at a1 a2
    rw [gd j r hr] at a2
    exact ⟨o, ho, a1, a2, a3⟩
  · intro j r hr
    have hj := (List.getElem?_eq_some_iff.1 hr).1
    obtain ⟨o, ho⟩ := ex (3 * j + 3) (by omega)
    obtain ⟨a1, a2, a3⟩ := at1 _ o ho
    have a4 := at2 _ o ho
    unfold litDst at a1
    unfold litOp at a2
    unfold litEdges at a4
    rw [if_neg (by omega), if_neg (by omega), if_neg (by omega), if_neg (by omega), if_neg (by omega)] at a1 a2
    rw [if_neg (by omega), if_neg (by omega), if_neg (by omega), if_pos (by omega)] at a4
    rw [show (3 * j + 3 - 1) / 3 = j by omega] at a2 a4
    simp only [Bool.and_eq_true] at a4
    obtain ⟨_, ⟨b1, b2⟩, b3⟩ := a4
    exact ⟨o, ho, a1, a2, a3, edgeTo_spec b1, edgeTo_spec b2, edgeTo_spec b3⟩
  · obtain ⟨o, ho⟩ := ex (3 * R.length + 1) (by omega)
    obtain ⟨a1, a2, a3⟩ := at1 _ o ho
    have a4 := at2 _ o ho
    unfold litDst at a1
    unfold litOp at a2
    unfold litEdges at a4
    rw [if_neg (by omega), if_pos rfl] at a1 a2 a4
    simp only [Bool.and_eq_true] at a4
    exact ⟨o, ho, a1, a2, a3, edgeTo_spec a4.2⟩
  · obtain ⟨o, ho⟩ := ex (3 * R.length + 2) (by omega)
    obtain ⟨a1, a2, a3⟩ := at1 _ o ho
    have a4 := at2 _ o ho
    unfold litDst at a1
    unfold litOp at a2
    unfold litEdges at a4
    rw [if_neg (by omega), if_neg (by omega), if_pos rfl] at a1 a2 a4
    simp only [Bool.and_eq_true] at a4
    exact ⟨o, ho, a1, a2, a3, edgeTo_spec a4.2⟩
  · intro i o ho e he hb
    have a4 := at2 _ o ho
    unfold litEdges at a4
    simp only [Bool.and_eq_true] at a4
    have := Array.all_eq_true_iff_forall_mem.1 a4.1 e he
    simpa [hb] using this
end Go.Proofs.YtmcmfklkljehiaaGreat

namespace Go.Proofs.YtmcmfklkljehiaaGreat
open Go.RowKit Go.Maps

def rulesL : List Row4 :=
  [(10, 10, 1, 10), (13, 13, 1, 10), (8233, 8233, 1, 10), (9, 9, 2, 11), (32, 32, 3, 12), (48, 57, 4, 3),
   (43, 43, 5, 4), (45, 45, 5, 4), (35, 37, 6, 5), (44, 44, 7, 7), (46, 47, 7, 7), (58, 58, 7, 7),
   (65, 90, 8, 0), (97, 122, 8, 0), (0, 31, 9, 9), (127, 159, 9, 9), (173, 173, 9, 9), (8203, 8203, 9, 9),
   (33, 191, 10, 13), (768, 879, 11, 8), (1611, 1618, 11, 8), (1488, 1514, 12, 1), (1569, 1610, 13, 2), (1632, 1641, 14, 6),
   (8234, 8234, 15, 14), (8235, 8235, 15, 15), (8236, 8236, 15, 16), (8237, 8237, 15, 17), (8238, 8238, 15, 18), (8294, 8294, 16, 19),
   (8295, 8295, 16, 20), (8296, 8296, 16, 21), (8297, 8297, 16, 22), (9001, 9002, 17, 13), (12296, 12297, 17, 13), (65533, 65533, 17, 13)]

theorem laidB : laidOutB Tryz.prog = true := by kernel_rfl
theorem spanRow : (109 : TypeId) < Tryz.prog.types.size := of_decide_eq_true (by kernel_rfl)
theorem spanWide : (match Tryz.prog.underlying 109 with | some (.array _ _) | some (.struct _) => true | _ => false) = true := by kernel_rfl
set_option maxRecDepth 100000 in
theorem spanKeyed : Keyed Tryz.prog 109 := Keyed.of_law (deep_law_laid laidB (m := 2) (by omega) spanRow (by kernel_rfl) spanWide)
set_option maxRecDepth 100000 in
theorem spanKeys : (rulesL.all fun r => (keyOf Tryz.prog 109 (rKey r)).isSome) = true := by kernel_rfl
theorem rulesApart : rulesL.Pairwise (fun p q => rKey p ≠ rKey q) := by
  have : rulesL.Pairwise (fun p q => (p.1, p.2.1) ≠ (q.1, q.2.1)) := by decide
  refine this.imp fun {p q} h e => h ?_
  simp only [rKey, Value.agg.injEq] at e
  simp at e
  simp [e.1, e.2]
theorem spanBuild (x y : Int) (w : World) : (Instr.build 109 #[(0, .int .i64 x), (1, .int .i64 y)]).run Tryz.prog w = .ok (.agg #[.int .i64 x, .int .i64 y]) w := by simp [go_sem]
theorem ruleBuild (x y : Int) (w : World) : (Instr.build 111 #[(0, .int .i64 x), (1, .int .i64 y)]).run Tryz.prog w = .ok (.agg #[.int .i64 x, .int .i64 y]) w := by simp [go_sem]

theorem classRules_any (w : World) :
    Calls Tryz.prog 44 #[] w fun e w' => (e = .returned (.map (some w.heap.size)) ∧ ∃ es clock, Mp w' w.heap.size (rulesL.map rEnt) (fun j => decide (j < rulesL.length)) es clock) ∧ Below w.heap.size w w' := by
  go_enter Tryz.func44, Tryz.ntmps44
  go_wp2
  refine wp_region_lit (tm := 81) (tk := 109) (tv := 111) (te := 111) (R := rulesL) ?_ spanKeyed Tryz.underlying81 ?_ rulesApart spanBuild ruleBuild (by kernel_rfl) (by simp [rulesL]) rfl ?_
  · exact litOps_of (by kernel_rfl) (by kernel_rfl) (by kernel_rfl)
  · intro r hr
    have := List.all_eq_true.1 spanKeys r hr
    exact Option.isSome_iff_exists.1 this
  · intro a' w' hsz hd h0 hb hm
    rename_i hK
    refine hK _ _ ?_
    refine wp_ret ?_
    exact bodyPost_ret (v := a'.tmps.getD 0 undef) (results_tmp rfl _ _ _) hd ⟨⟨by rw [h0], hm⟩, hb⟩

/-! ### the first rule that fits -/
def fits (c : Int) (r : Row4) : Bool := decide (r.1 ≤ c) && decide (c ≤ r.2.1)
def classF (c : Int) : Int := ((rulesL.find? (fits c)).map (fun r => r.2.2.2)).getD 0
def classN (c : Int) : Int :=
  if c = 10 ∨ c = 13 ∨ c = 8233 then 10 else if c = 9 then 11 else if c = 32 then 12 else if 48 ≤ c ∧ c ≤ 57 then 3 else if c = 43 ∨ c = 45 then 4 else if 35 ≤ c ∧ c ≤ 37 then 5
  else if c = 44 ∨ c = 46 ∨ c = 47 ∨ c = 58 then 7 else if (65 ≤ c ∧ c ≤ 90) ∨ (97 ≤ c ∧ c ≤ 122) then 0 else if (0 ≤ c ∧ c ≤ 31) ∨ (127 ≤ c ∧ c ≤ 159) ∨ c = 173 ∨ c = 8203 then 9
  else if 33 ≤ c ∧ c ≤ 191 then 13 else if (768 ≤ c ∧ c ≤ 879) ∨ (1611 ≤ c ∧ c ≤ 1618) then 8 else if 1488 ≤ c ∧ c ≤ 1514 then 1 else if 1569 ≤ c ∧ c ≤ 1610 then 2 else if 1632 ≤ c ∧ c ≤ 1641 then 6
  else if 8234 ≤ c ∧ c ≤ 8238 then 14 + (c - 8234) else if 8294 ≤ c ∧ c ≤ 8297 then 19 + (c - 8294) else if c = 9001 ∨ c = 9002 ∨ c = 12296 ∨ c = 12297 ∨ c = 65533 then 13 else 0

theorem find_if (c : Int) (r : Row4) (l : List Row4) (d : Int) : (((r :: l).find? (fits c)).map (fun r => r.2.2.2)).getD d = if r.1 ≤ c ∧ c ≤ r.2.1 then r.2.2.2 else ((l.find? (fits c)).map (fun r => r.2.2.2)).getD d := by
  by_cases h : r.1 ≤ c ∧ c ≤ r.2.1
  · rw [if_pos h, List.find?_cons_of_pos (by simp [fits, h])]; rfl
  · rw [if_neg h, List.find?_cons_of_neg (by simp only [fits, Bool.and_eq_true, decide_eq_true_eq]; exact h)]

theorem classF_0 {c : Int} (h : c = 10 ∨ c = 13 ∨ c = 8233) : classF c = 10 := by
  rcases h with h | h | h
  all_goals
    simp only [classF, rulesL, find_if]
    repeat (first | rw [if_pos (by omega)] | rw [if_neg (by omega)])
theorem classF_1 {c : Int} (h : c = 9) (n0 : ¬ (c = 10 ∨ c = 13 ∨ c = 8233)) : classF c = 11 := by
  simp only [classF, rulesL, find_if]
  repeat (first | rw [if_pos (by omega)] | rw [if_neg (by omega)])
theorem classF_2 {c : Int} (h : c = 32) (n0 : ¬ (c = 10 ∨ c = 13 ∨ c = 8233)) (n1 : ¬ (c = 9)) : classF c = 12 := by
  simp only [classF, rulesL, find_if]
  repeat (first | rw [if_pos (by omega)] | rw [if_neg (by omega)])
theorem classF_3 {c : Int} (h : 48 ≤ c ∧ c ≤ 57) (n0 : ¬ (c = 10 ∨ c = 13 ∨ c = 8233)) (n1 : ¬ (c = 9)) (n2 : ¬ (c = 32)) : classF c = 3 := by
  simp only [classF, rulesL, find_if]
  repeat (first | rw [if_pos (by omega)] | rw [if_neg (by omega)])
theorem classF_4 {c : Int} (h : c = 43 ∨ c = 45) (n0 : ¬ (c = 10 ∨ c = 13 ∨ c = 8233)) (n1 : ¬ (c = 9)) (n2 : ¬ (c = 32)) (n3 : ¬ (48 ≤ c ∧ c ≤ 57)) : classF c = 4 := by
  rcases h with h | h
  all_goals
    simp only [classF, rulesL, find_if]
    repeat (first | rw [if_pos (by omega)] | rw [if_neg (by omega)])
theorem classF_5 {c : Int} (h : 35 ≤ c ∧ c ≤ 37) (n0 : ¬ (c = 10 ∨ c = 13 ∨ c = 8233)) (n1 : ¬ (c = 9)) (n2 : ¬ (c = 32)) (n3 : ¬ (48 ≤ c ∧ c ≤ 57)) (n4 : ¬ (c = 43 ∨ c = 45)) : classF c = 5 := by
  simp only [classF, rulesL, find_if]
  repeat (first | rw [if_pos (by omega)] | rw [if_neg (by omega)])
theorem classF_6 {c : Int} (h : c = 44 ∨ c = 46 ∨ c = 47 ∨ c = 58) (n0 : ¬ (c = 10 ∨ c = 13 ∨ c = 8233)) (n1 : ¬ (c = 9)) (n2 : ¬ (c = 32)) (n3 : ¬ (48 ≤ c ∧ c ≤ 57)) (n4 : ¬ (c = 43 ∨ c = 45)) (n5 : ¬ (35 ≤ c ∧ c ≤ 37)) : classF c = 7 := by
  rcases h with h | h | h | h
  all_goals
    simp only [classF, rulesL, find_if]
    repeat (first | rw [if_pos (by omega)] | rw [if_neg (by omega)])
theorem classF_7 {c : Int} (h : (65 ≤ c ∧ c ≤ 90) ∨ (97 ≤ c ∧ c ≤ 122)) (n0 : ¬ (c = 10 ∨ c = 13 ∨ c = 8233)) (n1 : ¬ (c = 9)) (n2 : ¬ (c = 32)) (n3 : ¬ (48 ≤ c ∧ c ≤ 57)) (n4 : ¬ (c = 43 ∨ c = 45)) (n5 : ¬ (35 ≤ c ∧ c ≤ 37)) (n6 : ¬ (c = 44 ∨ c = 46 ∨ c = 47 ∨ c = 58)) : classF c = 0 := by
  rcases h with h | h
  all_goals
    simp only [classF, rulesL, find_if]
    repeat (first | rw [if_pos (by omega)] | rw [if_neg (by omega)])
theorem classF_8 {c : Int} (h : (0 ≤ c ∧ c ≤ 31) ∨ (127 ≤ c ∧ c ≤ 159) ∨ c = 173 ∨ c = 8203) (n0 : ¬ (c = 10 ∨ c = 13 ∨ c = 8233)) (n1 : ¬ (c = 9)) (n2 : ¬ (c = 32)) (n3 : ¬ (48 ≤ c ∧ c ≤ 57)) (n4 : ¬ (c = 43 ∨ c = 45)) (n5 : ¬ (35 ≤ c ∧ c ≤ 37)) (n6 : ¬ (c = 44 ∨ c = 46 ∨ c = 47 ∨ c = 58)) (n7 : ¬ ((65 ≤ c ∧ c ≤ 90) ∨ (97 ≤ c ∧ c ≤ 122))) : classF c = 9 := by
  rcases h with h | h | h | h
  all_goals
    simp only [classF, rulesL, find_if]
    repeat (first | rw [if_pos (by omega)] | rw [if_neg (by omega)])
theorem classF_9 {c : Int} (h : 33 ≤ c ∧ c ≤ 191) (n0 : ¬ (c = 10 ∨ c = 13 ∨ c = 8233)) (n1 : ¬ (c = 9)) (n2 : ¬ (c = 32)) (n3 : ¬ (48 ≤ c ∧ c ≤ 57)) (n4 : ¬ (c = 43 ∨ c = 45)) (n5 : ¬ (35 ≤ c ∧ c ≤ 37)) (n6 : ¬ (c = 44 ∨ c = 46 ∨ c = 47 ∨ c = 58)) (n7 : ¬ ((65 ≤ c ∧ c ≤ 90) ∨ (97 ≤ c ∧ c ≤ 122))) (n8 : ¬ ((0 ≤ c ∧ c ≤ 31) ∨ (127 ≤ c ∧ c ≤ 159) ∨ c = 173 ∨ c = 8203)) : classF c = 13 := by
  simp only [classF, rulesL, find_if]
  repeat (first | rw [if_pos (by omega)] | rw [if_neg (by omega)])
theorem classF_10 {c : Int} (h : (768 ≤ c ∧ c ≤ 879) ∨ (1611 ≤ c ∧ c ≤ 1618)) (n0 : ¬ (c = 10 ∨ c = 13 ∨ c = 8233)) (n1 : ¬ (c = 9)) (n2 : ¬ (c = 32)) (n3 : ¬ (48 ≤ c ∧ c ≤ 57)) (n4 : ¬ (c = 43 ∨ c = 45)) (n5 : ¬ (35 ≤ c ∧ c ≤ 37)) (n6 : ¬ (c = 44 ∨ c = 46 ∨ c = 47 ∨ c = 58)) (n7 : ¬ ((65 ≤ c ∧ c ≤ 90) ∨ (97 ≤ c ∧ c ≤ 122))) (n8 : ¬ ((0 ≤ c ∧ c ≤ 31) ∨ (127 ≤ c ∧ c ≤ 159) ∨ c = 173 ∨ c = 8203)) (n9 : ¬ (33 ≤ c ∧ c ≤ 191)) : classF c = 8 := by
  rcases h with h | h
  all_goals
    simp only [classF, rulesL, find_if]
    repeat (first | rw [if_pos (by omega)] | rw [if_neg (by omega)])
theorem classF_11 {c : Int} (h : 1488 ≤ c ∧ c ≤ 1514) (n0 : ¬ (c = 10 ∨ c = 13 ∨ c = 8233)) (n1 : ¬ (c = 9)) (n2 : ¬ (c = 32)) (n3 : ¬ (48 ≤ c ∧ c ≤ 57)) (n4 : ¬ (c = 43 ∨ c = 45)) (n5 : ¬ (35 ≤ c ∧ c ≤ 37)) (n6 : ¬ (c = 44 ∨ c = 46 ∨ c = 47 ∨ c = 58)) (n7 : ¬ ((65 ≤ c ∧ c ≤ 90) ∨ (97 ≤ c ∧ c ≤ 122))) (n8 : ¬ ((0 ≤ c ∧ c ≤ 31) ∨ (127 ≤ c ∧ c ≤ 159) ∨ c = 173 ∨ c = 8203)) (n9 : ¬ (33 ≤ c ∧ c ≤ 191)) (n10 : ¬ ((768 ≤ c ∧ c ≤ 879) ∨ (1611 ≤ c ∧ c ≤ 1618))) : classF c = 1 := by
  simp only [classF, rulesL, find_if]
  repeat (first | rw [if_pos (by omega)] | rw [if_neg (by omega)])
theorem classF_12 {c : Int} (h : 1569 ≤ c ∧ c ≤ 1610) (n0 : ¬ (c = 10 ∨ c = 13 ∨ c = 8233)) (n1 : ¬ (c = 9)) (n2 : ¬ (c = 32)) (n3 : ¬ (48 ≤ c ∧ c ≤ 57)) (n4 : ¬ (c = 43 ∨ c = 45)) (n5 : ¬ (35 ≤ c ∧ c ≤ 37)) (n6 : ¬ (c = 44 ∨ c = 46 ∨ c = 47 ∨ c = 58)) (n7 : ¬ ((65 ≤ c ∧ c ≤ 90) ∨ (97 ≤ c ∧ c ≤ 122))) (n8 : ¬ ((0 ≤ c ∧ c ≤ 31) ∨ (127 ≤ c ∧ c ≤ 159) ∨ c = 173 ∨ c = 8203)) (n9 : ¬ (33 ≤ c ∧ c ≤ 191)) (n10 : ¬ ((768 ≤ c ∧ c ≤ 879) ∨ (1611 ≤ c ∧ c ≤ 1618))) (n11 : ¬ (1488 ≤ c ∧ c ≤ 1514)) : classF c = 2 := by
  simp only [classF, rulesL, find_if]
  repeat (first | rw [if_pos (by omega)] | rw [if_neg (by omega)])
theorem classF_13 {c : Int} (h : 1632 ≤ c ∧ c ≤ 1641) (n0 : ¬ (c = 10 ∨ c = 13 ∨ c = 8233)) (n1 : ¬ (c = 9)) (n2 : ¬ (c = 32)) (n3 : ¬ (48 ≤ c ∧ c ≤ 57)) (n4 : ¬ (c = 43 ∨ c = 45)) (n5 : ¬ (35 ≤ c ∧ c ≤ 37)) (n6 : ¬ (c = 44 ∨ c = 46 ∨ c = 47 ∨ c = 58)) (n7 : ¬ ((65 ≤ c ∧ c ≤ 90) ∨ (97 ≤ c ∧ c ≤ 122))) (n8 : ¬ ((0 ≤ c ∧ c ≤ 31) ∨ (127 ≤ c ∧ c ≤ 159) ∨ c = 173 ∨ c = 8203)) (n9 : ¬ (33 ≤ c ∧ c ≤ 191)) (n10 : ¬ ((768 ≤ c ∧ c ≤ 879) ∨ (1611 ≤ c ∧ c ≤ 1618))) (n11 : ¬ (1488 ≤ c ∧ c ≤ 1514)) (n12 : ¬ (1569 ≤ c ∧ c ≤ 1610)) : classF c = 6 := by
  simp only [classF, rulesL, find_if]
  repeat (first | rw [if_pos (by omega)] | rw [if_neg (by omega)])
theorem classF_14 {c : Int} (h : 8234 ≤ c ∧ c ≤ 8238) (n0 : ¬ (c = 10 ∨ c = 13 ∨ c = 8233)) (n1 : ¬ (c = 9)) (n2 : ¬ (c = 32)) (n3 : ¬ (48 ≤ c ∧ c ≤ 57)) (n4 : ¬ (c = 43 ∨ c = 45)) (n5 : ¬ (35 ≤ c ∧ c ≤ 37)) (n6 : ¬ (c = 44 ∨ c = 46 ∨ c = 47 ∨ c = 58)) (n7 : ¬ ((65 ≤ c ∧ c ≤ 90) ∨ (97 ≤ c ∧ c ≤ 122))) (n8 : ¬ ((0 ≤ c ∧ c ≤ 31) ∨ (127 ≤ c ∧ c ≤ 159) ∨ c = 173 ∨ c = 8203)) (n9 : ¬ (33 ≤ c ∧ c ≤ 191)) (n10 : ¬ ((768 ≤ c ∧ c ≤ 879) ∨ (1611 ≤ c ∧ c ≤ 1618))) (n11 : ¬ (1488 ≤ c ∧ c ≤ 1514)) (n12 : ¬ (1569 ≤ c ∧ c ≤ 1610)) (n13 : ¬ (1632 ≤ c ∧ c ≤ 1641)) : classF c = 14 + (c - 8234) := by
  rcases (by omega : c = 8234 ∨ c = 8235 ∨ c = 8236 ∨ c = 8237 ∨ c = 8238) with rfl | rfl | rfl | rfl | rfl
  all_goals rfl
theorem classF_15 {c : Int} (h : 8294 ≤ c ∧ c ≤ 8297) (n0 : ¬ (c = 10 ∨ c = 13 ∨ c = 8233)) (n1 : ¬ (c = 9)) (n2 : ¬ (c = 32)) (n3 : ¬ (48 ≤ c ∧ c ≤ 57)) (n4 : ¬ (c = 43 ∨ c = 45)) (n5 : ¬ (35 ≤ c ∧ c ≤ 37)) (n6 : ¬ (c = 44 ∨ c = 46 ∨ c = 47 ∨ c = 58)) (n7 : ¬ ((65 ≤ c ∧ c ≤ 90) ∨ (97 ≤ c ∧ c ≤ 122))) (n8 : ¬ ((0 ≤ c ∧ c ≤ 31) ∨ (127 ≤ c ∧ c ≤ 159) ∨ c = 173 ∨ c = 8203)) (n9 : ¬ (33 ≤ c ∧ c ≤ 191)) (n10 : ¬ ((768 ≤ c ∧ c ≤ 879) ∨ (1611 ≤ c ∧ c ≤ 1618))) (n11 : ¬ (1488 ≤ c ∧ c ≤ 1514)) (n12 : ¬ (1569 ≤ c ∧ c ≤ 1610)) (n13 : ¬ (1632 ≤ c ∧ c ≤ 1641)) (n14 : ¬ (8234 ≤ c ∧ c ≤ 8238)) : classF c = 19 + (c - 8294) := by
  rcases (by omega : c = 8294 ∨ c = 8295 ∨ c = 8296 ∨ c = 8297) with rfl | rfl | rfl | rfl
  all_goals rfl
theorem classF_16 {c : Int} (h : c = 9001 ∨ c = 9002 ∨ c = 12296 ∨ c = 12297 ∨ c = 65533) (n0 : ¬ (c = 10 ∨ c = 13 ∨ c = 8233)) (n1 : ¬ (c = 9)) (n2 : ¬ (c = 32)) (n3 : ¬ (48 ≤ c ∧ c ≤ 57)) (n4 : ¬ (c = 43 ∨ c = 45)) (n5 : ¬ (35 ≤ c ∧ c ≤ 37)) (n6 : ¬ (c = 44 ∨ c = 46 ∨ c = 47 ∨ c = 58)) (n7 : ¬ ((65 ≤ c ∧ c ≤ 90) ∨ (97 ≤ c ∧ c ≤ 122))) (n8 : ¬ ((0 ≤ c ∧ c ≤ 31) ∨ (127 ≤ c ∧ c ≤ 159) ∨ c = 173 ∨ c = 8203)) (n9 : ¬ (33 ≤ c ∧ c ≤ 191)) (n10 : ¬ ((768 ≤ c ∧ c ≤ 879) ∨ (1611 ≤ c ∧ c ≤ 1618))) (n11 : ¬ (1488 ≤ c ∧ c ≤ 1514)) (n12 : ¬ (1569 ≤ c ∧ c ≤ 1610)) (n13 : ¬ (1632 ≤ c ∧ c ≤ 1641)) (n14 : ¬ (8234 ≤ c ∧ c ≤ 8238)) (n15 : ¬ (8294 ≤ c ∧ c ≤ 8297)) : classF c = 13 := by
  rcases h with h | h | h | h | h
  all_goals
    simp only [classF, rulesL, find_if]
    repeat (first | rw [if_pos (by omega)] | rw [if_neg (by omega)])
theorem classF_17 {c : Int} (n0 : ¬ (c = 10 ∨ c = 13 ∨ c = 8233)) (n1 : ¬ (c = 9)) (n2 : ¬ (c = 32)) (n3 : ¬ (48 ≤ c ∧ c ≤ 57)) (n4 : ¬ (c = 43 ∨ c = 45)) (n5 : ¬ (35 ≤ c ∧ c ≤ 37)) (n6 : ¬ (c = 44 ∨ c = 46 ∨ c = 47 ∨ c = 58)) (n7 : ¬ ((65 ≤ c ∧ c ≤ 90) ∨ (97 ≤ c ∧ c ≤ 122))) (n8 : ¬ ((0 ≤ c ∧ c ≤ 31) ∨ (127 ≤ c ∧ c ≤ 159) ∨ c = 173 ∨ c = 8203)) (n9 : ¬ (33 ≤ c ∧ c ≤ 191)) (n10 : ¬ ((768 ≤ c ∧ c ≤ 879) ∨ (1611 ≤ c ∧ c ≤ 1618))) (n11 : ¬ (1488 ≤ c ∧ c ≤ 1514)) (n12 : ¬ (1569 ≤ c ∧ c ≤ 1610)) (n13 : ¬ (1632 ≤ c ∧ c ≤ 1641)) (n14 : ¬ (8234 ≤ c ∧ c ≤ 8238)) (n15 : ¬ (8294 ≤ c ∧ c ≤ 8297)) (n16 : ¬ (c = 9001 ∨ c = 9002 ∨ c = 12296 ∨ c = 12297 ∨ c = 65533)) : classF c = 0 := by
  simp only [classF, rulesL, find_if]
  repeat (first | rw [if_neg (by omega)])
  rfl
set_option maxRecDepth 100000 in
set_option maxHeartbeats 1000000 in
theorem classF_eq (c : Int) : classF c = classN c := by
  unfold classN
  by_cases n0 : c = 10 ∨ c = 13 ∨ c = 8233
  · rw [if_pos n0]; exact classF_0 n0
  by_cases n1 : c = 9
  · rw [if_neg n0, if_pos n1]; exact classF_1 n1 n0
  by_cases n2 : c = 32
  · rw [if_neg n0, if_neg n1, if_pos n2]; exact classF_2 n2 n0 n1
  by_cases n3 : 48 ≤ c ∧ c ≤ 57
  · rw [if_neg n0, if_neg n1, if_neg n2, if_pos n3]; exact classF_3 n3 n0 n1 n2
  by_cases n4 : c = 43 ∨ c = 45
  · rw [if_neg n0, if_neg n1, if_neg n2, if_neg n3, if_pos n4]; exact classF_4 n4 n0 n1 n2 n3
  by_cases n5 : 35 ≤ c ∧ c ≤ 37
  · rw [if_neg n0, if_neg n1, if_neg n2, if_neg n3, if_neg n4, if_pos n5]; exact classF_5 n5 n0 n1 n2 n3 n4
  by_cases n6 : c = 44 ∨ c = 46 ∨ c = 47 ∨ c = 58
  · rw [if_neg n0, if_neg n1, if_neg n2, if_neg n3, if_neg n4, if_neg n5, if_pos n6]; exact classF_6 n6 n0 n1 n2 n3 n4 n5
  by_cases n7 : (65 ≤ c ∧ c ≤ 90) ∨ (97 ≤ c ∧ c ≤ 122)
  · rw [if_neg n0, if_neg n1, if_neg n2, if_neg n3, if_neg n4, if_neg n5, if_neg n6, if_pos n7]; exact classF_7 n7 n0 n1 n2 n3 n4 n5 n6
  by_cases n8 : (0 ≤ c ∧ c ≤ 31) ∨ (127 ≤ c ∧ c ≤ 159) ∨ c = 173 ∨ c = 8203
  · rw [if_neg n0, if_neg n1, if_neg n2, if_neg n3, if_neg n4, if_neg n5, if_neg n6, if_neg n7, if_pos n8]; exact classF_8 n8 n0 n1 n2 n3 n4 n5 n6 n7
  by_cases n9 : 33 ≤ c ∧ c ≤ 191
  · rw [if_neg n0, if_neg n1, if_neg n2, if_neg n3, if_neg n4, if_neg n5, if_neg n6, if_neg n7, if_neg n8, if_pos n9]; exact classF_9 n9 n0 n1 n2 n3 n4 n5 n6 n7 n8
  by_cases n10 : (768 ≤ c ∧ c ≤ 879) ∨ (1611 ≤ c ∧ c ≤ 1618)
  · rw [if_neg n0, if_neg n1, if_neg n2, if_neg n3, if_neg n4, if_neg n5, if_neg n6, if_neg n7, if_neg n8, if_neg n9, if_pos n10]; exact classF_10 n10 n0 n1 n2 n3 n4 n5 n6 n7 n8 n9
  by_cases n11 : 1488 ≤ c ∧ c ≤ 1514
  · rw [if_neg n0, if_neg n1, if_neg n2, if_neg n3, if_neg n4, if_neg n5, if_neg n6, if_neg n7, if_neg n8, if_neg n9, if_neg n10, if_pos n11]; exact classF_11 n11 n0 n1 n2 n3 n4 n5 n6 n7 n8 n9 n10
  by_cases n12 : 1569 ≤ c ∧ c ≤ 1610
  · rw [if_neg n0, if_neg n1, if_neg n2, if_neg n3, if_neg n4, if_neg n5, if_neg n6, if_neg n7, if_neg n8, if_neg n9, if_neg n10, if_neg n11, if_pos n12]; exact classF_12 n12 n0 n1 n2 n3 n4 n5 n6 n7 n8 n9 n10 n11
  by_cases n13 : 1632 ≤ c ∧ c ≤ 1641
  · rw [if_neg n0, if_neg n1, if_neg n2, if_neg n3, if_neg n4, if_neg n5, if_neg n6, if_neg n7, if_neg n8, if_neg n9, if_neg n10, if_neg n11, if_neg n12, if_pos n13]; exact classF_13 n13 n0 n1 n2 n3 n4 n5 n6 n7 n8 n9 n10 n11 n12
  by_cases n14 : 8234 ≤ c ∧ c ≤ 8238
  · rw [if_neg n0, if_neg n1, if_neg n2, if_neg n3, if_neg n4, if_neg n5, if_neg n6, if_neg n7, if_neg n8, if_neg n9, if_neg n10, if_neg n11, if_neg n12, if_neg n13, if_pos n14]; exact classF_14 n14 n0 n1 n2 n3 n4 n5 n6 n7 n8 n9 n10 n11 n12 n13
  by_cases n15 : 8294 ≤ c ∧ c ≤ 8297
  · rw [if_neg n0, if_neg n1, if_neg n2, if_neg n3, if_neg n4, if_neg n5, if_neg n6, if_neg n7, if_neg n8, if_neg n9, if_neg n10, if_neg n11, if_neg n12, if_neg n13, if_neg n14, if_pos n15]; exact classF_15 n15 n0 n1 n2 n3 n4 n5 n6 n7 n8 n9 n10 n11 n12 n13 n14
  by_cases n16 : c = 9001 ∨ c = 9002 ∨ c = 12296 ∨ c = 12297 ∨ c = 65533
  · rw [if_neg n0, if_neg n1, if_neg n2, if_neg n3, if_neg n4, if_neg n5, if_neg n6, if_neg n7, if_neg n8, if_neg n9, if_neg n10, if_neg n11, if_neg n12, if_neg n13, if_neg n14, if_neg n15, if_pos n16]; exact classF_16 n16 n0 n1 n2 n3 n4 n5 n6 n7 n8 n9 n10 n11 n12 n13 n14 n15
  rw [if_neg n0, if_neg n1, if_neg n2, if_neg n3, if_neg n4, if_neg n5, if_neg n6, if_neg n7, if_neg n8, if_neg n9, if_neg n10, if_neg n11, if_neg n12, if_neg n13, if_neg n14, if_neg n15, if_neg n16]; exact classF_17 n0 n1 n2 n3 n4 n5 n6 n7 n8 n9 n10 n11 n12 n13 n14 n15 n16
end Go.Proofs.YtmcmfklkljehiaaGreat
