/- The frame of every law of ours: a call that answers true and leaves what was there: the row's step out of the walk. No program is named here. -/
import Derived.WalkKit
import Derived.WalkSpells
import Derived.Lib.Hide
import Derived.Deep.Draws
import Derived.Maps.AppendAt
import Derived.Laws.OwnMore
import Derived.OwnWalk
import Derived.Test.YtcfnhjpmihngdaaGreatRows
import Derived.ProofKit
import Derived.OpenShut
import Derived.SizedLaws
import Derived.OpenVars
namespace Go.Proofs.YtcfnhjpmihngdaaGreat
open Go.RowKit

/-- The cells from A on are xs, all in a block below B. -/
def Rd (w : World) (B : Nat) (A : Option Addr) (xs : List Value) : Prop :=
  ∀ k u, xs[k]? = some u → ∃ b off, A = some ⟨b, off, none⟩ ∧ b < B ∧ w.cell? ⟨b, off + k, none⟩ = some u

/-- numbers of one kind as cells -/
def nums (kd : IntKind) (zs : List Int) : List Value := zs.map (Value.int kd)
theorem nums_length (kd : IntKind) (zs : List Int) : (nums kd zs).length = zs.length := by simp [nums]

/-- an element, closed to simp -/
def nth (zs : List Int) (k : Nat) : Int := zs[k]?.getD 0

theorem nums_get (kd : IntKind) (zs : List Int) (k : Nat) (hk : k < zs.length) : (nums kd zs)[k]? = some (.int kd (nth zs k)) := by
  simp [nums, nth, List.getElem?_eq_getElem hk]

theorem drop_nth (zs : List Int) (k : Nat) (hk : k < zs.length) : zs.drop k = nth zs k :: zs.drop (k + 1) := by
  rw [List.drop_eq_getElem_cons hk]; simp [nth, List.getElem?_eq_getElem hk]

theorem take_nth (zs : List Int) (k : Nat) (hk : k < zs.length) : zs.take (k + 1) = zs.take k ++ [nth zs k] := by
  rw [List.take_succ_eq_append_getElem hk]; simp [nth, List.getElem?_eq_getElem hk]

theorem Rd.nil (w : World) (B : Nat) (A : Option Addr) : Rd w B A [] := by intro k u h; simp at h

/-- where the slice lies, and all its cells -/
theorem Rd.int {kd : IntKind} {w : World} {B : Nat} {A : Option Addr} {zs : List Int} (h : Rd w B A (nums kd zs)) (h0 : 0 < zs.length) :
    ∃ b off, A = some ⟨b, off, none⟩ ∧ b < B ∧ ∀ k, k < zs.length → w.cell? ⟨b, off + k, none⟩ = some (.int kd (nth zs k)) := by
  obtain ⟨b, off, rfl, hb, _⟩ := h 0 _ (nums_get kd zs 0 h0)
  refine ⟨b, off, rfl, hb, fun k hk => ?_⟩
  obtain ⟨b', off', e, _, hc⟩ := h k _ (nums_get kd zs k hk)
  injection e with e
  injection e with e1 e2
  subst e1; subst e2
  exact hc

theorem Rd.keep {w w' : World} {B : Nat} {A : Option Addr} {xs : List Value} (h : Rd w B A xs) (hk : ∀ p : Addr, p.block < B → w'.cell? p = w.cell? p) : Rd w' B A xs := by
  intro k u hu
  obtain ⟨b, off, h1, h2, h3⟩ := h k u hu
  exact ⟨b, off, h1, h2, by rw [hk _ h2]; exact h3⟩

theorem Rd.more {w : World} {B B' : Nat} {A : Option Addr} {xs : List Value} (h : Rd w B A xs) (hB : B ≤ B') : Rd w B' A xs := by
  intro k u hu
  obtain ⟨b, off, h1, h2, h3⟩ := h k u hu
  exact ⟨b, off, h1, by omega, h3⟩

theorem Rd.below {w w' : World} {B C : Nat} {A : Option Addr} {xs : List Value} (h : Rd w B A xs) (hb : Below C w w') (hC : B ≤ C) : Rd w' B A xs :=
  h.keep fun p hp => hb.cell (p := p) (Nat.lt_of_lt_of_le hp hC)

theorem Rd.take {w : World} {B : Nat} {A : Option Addr} {xs : List Value} (h : Rd w B A xs) (k : Nat) : Rd w B A (xs.take k) := by
  intro j u hu
  rw [List.getElem?_take] at hu
  split at hu
  · exact h _ u hu
  · cases hu

/-- What an owned row holds reads so. -/
theorem Rd.own {w : World} {base n : Nat} {e : TypeId} {size : Nat} {A : Option Addr} {c : Nat} {xs : List Value} (h : w.ownsRow base e size (.slice A n c) n xs) (B : Nat) (hB : w.heap.size ≤ B) : Rd w B A xs := by
  intro k u hu
  rcases h.2 with ⟨hv, hn⟩ | ⟨g, cap, cur, hv, _, hg, _, _, _, _⟩
  · have hl := h.1
    rw [hn] at hl
    have : xs = [] := List.eq_nil_of_length_eq_zero (by simpa using hl)
    subst this
    simp at hu
  · have hA : A = some ⟨g, 0, none⟩ := by injection hv
    subst hA
    have hlt : g < w.heap.size := (Array.getElem?_eq_some_iff.1 hg).1
    have hc := h.cells (g := g) rfl k u hu
    refine ⟨g, 0, rfl, by omega, ?_⟩
    have e : (⟨g, 0, none⟩ : Addr).add k = ⟨g, 0 + k, none⟩ := by unfold Addr.add; split <;> simp_all
    rw [← e]; exact hc

/-- A block just laid reads as what it was laid with. -/
theorem Rd.lit (w : World) (vs : Array Value) (t : TypeId) : Rd (w.alloc (.cells vs t)) (w.heap.size + 1) (some ⟨w.heap.size, 0, none⟩) vs.toList := by
  intro k u hu
  refine ⟨_, _, rfl, by omega, ?_⟩
  rw [cell_of_row _ _ _ _ _ _ (heap_alloc_new w (.cells vs t)), Nat.zero_add]
  simpa using hu

/-- What is told below the whole heap keeps every row. -/
theorem grown_of_below {w w' : World} (h : Below w.heap.size w w') (row : Option Nat) : w.grownBy w' row := ⟨h.os, h.tape, h.output, h.size, fun i hi _ => h.block i hi⟩

theorem own_below {w w' : World} {base n : Nat} {e : TypeId} {size : Nat} {v : Value} {xs : List Value} (h : w.ownsRow base e size v n xs) (hb : Below w.heap.size w w') : w'.ownsRow base e size v n xs :=
  h.kept (grown_of_below hb none) (by cases hv : v.ownBlock <;> simp)

theorem own_more {w : World} {base base' n : Nat} {e : TypeId} {size : Nat} {v : Value} {xs : List Value} (h : w.ownsRow base e size v n xs) (hb : base' ≤ base) : w.ownsRow base' e size v n xs := by
  refine ⟨h.1, ?_⟩
  rcases h.2 with hn | ⟨g, cap, cur, h1, h2, h3⟩
  · exact .inl hn
  · exact .inr ⟨g, cap, cur, h1, by omega, h3⟩

/-- An owned row is a slice value with its length. -/
theorem own_form {w : World} {base n : Nat} {e : TypeId} {size : Nat} {v : Value} {xs : List Value} (h : w.ownsRow base e size v n xs) : ∃ A c, v = .slice A n c := by
  rcases h.2 with ⟨rfl, rfl⟩ | ⟨g, cap, cur, rfl, _⟩
  · exact ⟨_, _, rfl⟩
  · exact ⟨_, _, rfl⟩

theorem Rd.on {w w' : World} {A : Option Addr} {xs : List Value} (h : Rd w w.heap.size A xs) (hb : Below w.heap.size w w') : Rd w' w'.heap.size A xs := (h.below hb (Nat.le_refl _)).more hb.size
theorem Rd.of {w : World} {base n : Nat} {e : TypeId} {size : Nat} {A : Option Addr} {c : Nat} {xs : List Value} (h : w.ownsRow base e size (.slice A n c) n xs) : Rd w w.heap.size A xs := Rd.own h _ (Nat.le_refl _)
theorem below_on {B : Nat} {w w1 w2 : World} (h : Below B w w1) (h' : Below w1.heap.size w1 w2) (hB : B ≤ w.heap.size) : Below B w w2 := h.trans (h'.mono (Nat.le_trans hB h.size))
theorem below_draw (w : World) (n B : Nat) : Below B w (w.drewN n) := ⟨rfl, rfl, rfl, Nat.le_refl _, fun _ _ => rfl⟩

theorem below_drewN {B : Nat} {a w : World} (h : Below B a w) (n : Nat) : Below B a (w.drewN n) := ⟨h.os, h.tape, h.output, h.size, h.block⟩

theorem set_take {xs ys : List Value} {k : Nat} {u : Value} (h : xs.take k = ys.take k) (hk : k < xs.length) (hu : ys[k]? = some u) : (xs.set k u).take (k + 1) = ys.take (k + 1) := by
  have hy : k < ys.length := (List.getElem?_eq_some_iff.1 hu).1
  rw [List.take_succ_eq_append_getElem (by simpa using hk), List.take_succ_eq_append_getElem hy, List.take_set]
  have e : (xs.take k).set k u = xs.take k := List.set_eq_of_length_le (by simp; omega)
  rw [e, h]
  simp [(List.getElem?_eq_some_iff.1 hu).2]

/-- The cells of a slice that reads, at the address that a law on append looks at. -/
theorem Rd.cells {w : World} {B : Nat} {ad : Addr} {xs : List Value} (h : Rd w B (some ad) xs) : ∀ j u, xs[j]? = some u → w.cell? (ad.add j) = some u := by
  intro j u hu
  obtain ⟨b, off, e, _, hc⟩ := h j u hu
  injection e with e
  subst e
  have : (⟨b, off, none⟩ : Addr).add j = ⟨b, off + j, none⟩ := by unfold Addr.add; split <;> simp_all
  rw [this]; exact hc

/-- append of nothing. -/
theorem run_app_none {P : Program} (w : World) (base : Nat) (t ty e : TypeId) (i : TypeInfo) (size : Nat) (ht : P.underlying t = some (.slice e)) (hi : P.info? e = some i)
    (v : Value) (n : Nat) (xs : List Value) (hown : w.ownsRow base e size v n xs) (c : Nat) : (Builtin.append_ #[t, t] ty #[v, .slice none 0 c]).run P w = .ok v w := by
  rcases hown.2 with ⟨rfl, rfl⟩ | ⟨g, cap, cur, rfl, _, _, hnc, _⟩
  · simp [Builtin.append_, run_underlying ht, sizeOf, typeInfo, hi, Builtin.lenOf, Builtin.firstCells]
  · simp [Builtin.append_, run_underlying ht, sizeOf, typeInfo, hi, Builtin.lenOf, Builtin.firstCells, hnc, storeCells]

/-- 'out = append(out, src...)', out the call's own, src whatever reads. -/
theorem wpList_app {P : Program} {w : World} {ops : Array Oper} {rest : List Oper} {o : Oper} {a : Act} {Q : Exit → Act → World → Prop} (hgd : o.guard = none) (s x : Operand) (t : TypeId)
    (ho : o.op = .call { callee := .builtin .append, args := #[s, x], argTypes := #[t, t] })
    (base : Nat) {e : TypeId} {i : TypeInfo} {z : Value} {size bytes : Nat} (ht : P.underlying t = some (.slice e)) (hi : P.info? e = some i) (hz : i.zero = some z)
    (hsize : i.size = size) (hby : i.bytes = bytes) (hzs : z.cells.size = size) (hsz : 0 < size)
    {v : Value} {n : Nat} {xs : List Value} (hs : a.eval s = v) (hown : w.ownsRow base e size v n xs)
    {B : Nat} {A : Option Addr} {m c : Nat} {news : List Value} (hx : a.eval x = .slice A m c) (hr : Rd w B A news) (hl : news.length = m * size) (h1 : ∀ u ∈ news, u.oneCell' = true)
    (hn : (n + m) * bytes ≤ 140737488355328) (hm : n + m ≤ 140737488355328) (hbase : base ≤ w.heap.size)
    (h : ∀ v' w', w'.ownsRow base e size v' (n + m) (xs ++ news) → w.grownBy w' v.ownBlock → (v'.ownBlock = v.ownBlock ∨ v'.ownBlock = some w.heap.size) → wpList P ops Q rest (a.put o.dst v') w') :
    wpList P ops Q (o :: rest) a w := by
  have key : ∃ v' w', (Builtin.append_ #[t, t] o.type #[v, .slice A m c]).run P w = .ok v' w' ∧ w'.ownsRow base e size v' (n + m) (xs ++ news) ∧ w.grownBy w' v.ownBlock ∧ (v'.ownBlock = v.ownBlock ∨ v'.ownBlock = some w.heap.size) := by
    match A, hr with
    | some ad, hr =>
      obtain ⟨v', w', h2, h3, h4, _, h5⟩ := run_append_own_at (P := P) w base t o.type e i z size bytes ht hi hz hsize hby hzs hsz v n xs hown ad m c news hl hr.cells h1 (by unfold maxLen; omega) hn hbase
      exact ⟨v', w', h2, h3, h4, h5⟩
    | none, hr =>
      have hnews : news = [] := by
        cases news with
        | nil => rfl
        | cons y ys =>
          obtain ⟨_, _, e', _⟩ := hr 0 y rfl
          cases e'
      subst hnews
      obtain rfl : m = 0 := by
        rcases Nat.eq_zero_or_pos m with h0 | h0
        · exact h0
        · have := Nat.mul_pos h0 hsz
          simp at hl
          omega
      exact ⟨v, w, run_app_none w base t o.type e i size ht hi v n xs hown c, by simpa using hown, World.grownBy.refl w _, .inl rfl⟩
  obtain ⟨v', w', hrun, h2, h3, h4⟩ := key
  refine wpList_plain hgd fun K hK => ?_
  unfold Oper.wp execOp
  simp only [ho, resolve, invoke, builtin, Sem.run_bind, Sem.run_pure, Result.andThen_ok, List.map_toArray, List.map_cons, List.map_nil, hs, hx, hrun]
  exact hK _ _ (h v' w' h2 h3 h4)

theorem nums_one (kd : IntKind) (zs : List Int) : ∀ u ∈ nums kd zs, u.oneCell' = true := by
  intro u hu
  simp only [nums, List.mem_map] at hu
  obtain ⟨z, _, rfl⟩ := hu
  rfl

/-- v is a slice that reads as the numbers zs, in blocks below B. -/
def Sees (w : World) (B : Nat) (kd : IntKind) (v : Value) (zs : List Int) : Prop := ∃ A c, v = .slice A zs.length c ∧ Rd w B A (nums kd zs)

/-- v is a slice of the call's own that holds zs: its row lies in a block from lo on and below hi. -/
def Own (w : World) (lo hi : Nat) (t : TypeId) (kd : IntKind) (v : Value) (zs : List Int) : Prop :=
  w.ownsRow lo t 1 v zs.length (nums kd zs) ∧ ∀ g, v.ownBlock = some g → g < hi

/-- only blocks from lo on and below hi, and new ones, have turned -/
structure Out (lo hi : Nat) (w w' : World) : Prop where
  os : w'.os = w.os
  tape : w'.tape = w.tape
  output : w'.output = w.output
  size : w.heap.size ≤ w'.heap.size
  block : ∀ k, k < w.heap.size → ¬ (lo ≤ k ∧ k < hi) → w'.heap[k]? = w.heap[k]?

theorem Out.refl (lo hi : Nat) (w : World) : Out lo hi w w := ⟨rfl, rfl, rfl, Nat.le_refl _, fun _ _ _ => rfl⟩
theorem Out.trans {lo hi : Nat} {a b c : World} (h : Out lo hi a b) (k : Out lo hi b c) : Out lo hi a c :=
  ⟨k.os.trans h.os, k.tape.trans h.tape, k.output.trans h.output, Nat.le_trans h.size k.size, fun i hi hn => (k.block i (Nat.lt_of_lt_of_le hi h.size) hn).trans (h.block i hi hn)⟩
theorem Out.of_below {lo hi : Nat} {w w' : World} (h : Below w.heap.size w w') : Out lo hi w w' := ⟨h.os, h.tape, h.output, h.size, fun k hk _ => h.block k hk⟩
theorem Out.of_grown {lo hi : Nat} {w w' : World} {v : Value} (h : w.grownBy w' v.ownBlock) (hv : ∀ g, v.ownBlock = some g → lo ≤ g ∧ g < hi) : Out lo hi w w' :=
  ⟨h.os, h.tape, h.output, h.size, fun k hk hn => h.block k hk (fun e => hn (hv k e.symm))⟩
theorem Out.to_below {lo hi B : Nat} {w w' : World} (h : Out lo hi w w') (hB : B ≤ lo) (hw : B ≤ w.heap.size) : Below B w w' :=
  ⟨h.os, h.tape, h.output, h.size, fun k hk => h.block k (by omega) (by omega)⟩
theorem Out.more {lo hi lo' hi' : Nat} {w w' : World} (h : Out lo hi w w') (h1 : lo' ≤ lo) (h2 : hi ≤ hi') : Out lo' hi' w w' :=
  ⟨h.os, h.tape, h.output, h.size, fun k hk hn => h.block k hk (fun hh => hn ⟨by omega, by omega⟩)⟩

theorem Own.form {w : World} {lo hi : Nat} {t : TypeId} {kd : IntKind} {v : Value} {zs : List Int} (h : Own w lo hi t kd v zs) : ∃ A c, v = .slice A zs.length c := own_form h.1
theorem Own.lt {w : World} {lo hi : Nat} {t : TypeId} {kd : IntKind} {v : Value} {zs : List Int} (h : Own w lo hi t kd v zs) : ∀ g, v.ownBlock = some g → lo ≤ g ∧ g < hi := fun g hg => ⟨(h.1.lt g hg).1, h.2 g hg⟩
theorem Own.mk_ {w : World} {lo : Nat} {t : TypeId} {kd : IntKind} {v : Value} {n : Nat} {zs : List Int} (h : w.ownsRow lo t 1 v n (nums kd zs)) (hn : n = zs.length) : Own w lo w.heap.size t kd v zs := by
  subst hn
  exact ⟨h, fun g hg => (h.lt g hg).2⟩
theorem Own.nil (w : World) (lo hi : Nat) (t : TypeId) (kd : IntKind) : Own w lo hi t kd (.slice none 0 0) [] := ⟨World.ownsRow_nil _ _ _ _, by simp [Value.ownBlock]⟩
theorem Own.keep {w w' : World} {lo hi : Nat} {t : TypeId} {kd : IntKind} {v : Value} {zs : List Int} (h : Own w lo hi t kd v zs) (hk : ∀ k, k < w.heap.size → lo ≤ k → k < hi → w'.heap[k]? = w.heap[k]?) : Own w' lo hi t kd v zs := by
  refine ⟨⟨h.1.1, ?_⟩, h.2⟩
  rcases h.1.2 with hn | ⟨g, cap, cur, rfl, hb, hg, rest⟩
  · exact .inl hn
  · exact .inr ⟨g, cap, cur, rfl, hb, by rw [hk g (Array.getElem?_eq_some_iff.1 hg).1 hb (h.2 g rfl)]; exact hg, rest⟩
theorem Own.below {w w' : World} {lo hi B : Nat} {t : TypeId} {kd : IntKind} {v : Value} {zs : List Int} (h : Own w lo hi t kd v zs) (hb : Below B w w') (hB : hi ≤ B) : Own w' lo hi t kd v zs :=
  h.keep fun k _ _ hk => hb.block k (Nat.lt_of_lt_of_le hk hB)
theorem Own.out {w w' : World} {lo hi lo' hi' : Nat} {t : TypeId} {kd : IntKind} {v : Value} {zs : List Int} (h : Own w lo hi t kd v zs) (hb : Out lo' hi' w w') (hd : hi ≤ lo' ∨ hi' ≤ lo) : Own w' lo hi t kd v zs :=
  h.keep fun k hk h1 h2 => hb.block k hk (by omega)
theorem Own.grown {w w' : World} {lo hi : Nat} {t : TypeId} {kd : IntKind} {v u : Value} {zs : List Int} (h : Own w lo hi t kd v zs) (hb : w.grownBy w' u.ownBlock) (hd : v.ownBlock = none ∨ v.ownBlock ≠ u.ownBlock) : Own w' lo hi t kd v zs :=
  ⟨h.1.kept hb hd, h.2⟩
theorem Own.more {w : World} {lo hi lo' hi' : Nat} {t : TypeId} {kd : IntKind} {v : Value} {zs : List Int} (h : Own w lo hi t kd v zs) (h1 : lo' ≤ lo) (h2 : hi ≤ hi') : Own w lo' hi' t kd v zs :=
  ⟨own_more h.1 h1, fun g hg => Nat.lt_of_lt_of_le (h.2 g hg) h2⟩
theorem Own.sees {w : World} {lo hi : Nat} {t : TypeId} {kd : IntKind} {v : Value} {zs : List Int} (h : Own w lo hi t kd v zs) : Sees w hi kd v zs := by
  obtain ⟨A, c, rfl⟩ := h.form
  refine ⟨A, c, rfl, ?_⟩
  intro k u hu
  obtain ⟨b, off, rfl, hb, hc⟩ := Rd.of h.1 k u hu
  exact ⟨b, off, rfl, h.2 b rfl, hc⟩
theorem Sees.keep {w w' : World} {B : Nat} {kd : IntKind} {v : Value} {zs : List Int} (h : Sees w B kd v zs) (hk : ∀ k, k < B → w'.heap[k]? = w.heap[k]?) : Sees w' B kd v zs := by
  obtain ⟨A, c, rfl, hr⟩ := h
  exact ⟨A, c, rfl, hr.keep fun p hp => by unfold World.cell?; rw [hk p.block hp]⟩
theorem Sees.below {w w' : World} {B C : Nat} {kd : IntKind} {v : Value} {zs : List Int} (h : Sees w B kd v zs) (hb : Below C w w') (hB : B ≤ C) : Sees w' B kd v zs :=
  h.keep fun k hk => hb.block k (Nat.lt_of_lt_of_le hk hB)
theorem Sees.out {w w' : World} {B lo hi : Nat} {kd : IntKind} {v : Value} {zs : List Int} (h : Sees w B kd v zs) (hb : Out lo hi w w') (hB : B ≤ lo) (hw : B ≤ w.heap.size) : Sees w' B kd v zs :=
  h.keep fun k hk => hb.block k (by omega) (by omega)
theorem Sees.drew {w : World} {B : Nat} {kd : IntKind} {v : Value} {zs : List Int} (h : Sees w B kd v zs) (n : Nat) : Sees (w.drewN n) B kd v zs := h

theorem Sees.alloc {w : World} {B : Nat} {kd : IntKind} {v : Value} {zs : List Int} (h : Sees w B kd v zs) (hB : B ≤ w.heap.size) (o : Obj) : Sees (w.alloc o) B kd v zs :=
  h.keep fun k hk => Below.heap_alloc w o k (Nat.lt_of_lt_of_le hk hB)
theorem Own.alloc {w : World} {lo hi : Nat} {t : TypeId} {kd : IntKind} {v : Value} {zs : List Int} (h : Own w lo hi t kd v zs) (o : Obj) : Own (w.alloc o) lo hi t kd v zs :=
  h.keep fun k hk _ _ => Below.heap_alloc w o k hk

theorem Own.set {w : World} {lo hi : Nat} {t : TypeId} {kd : IntKind} {v : Value} {zs : List Int} (h : Own w lo hi t kd v zs) (p : Addr) (u : Value) (hp : p.block < lo ∨ hi ≤ p.block) : Own (w.setCell p u) lo hi t kd v zs :=
  h.keep fun k _ h1 h2 => heap_setCell_other w p k u (by omega)
theorem Own.le {w : World} {lo hi hi' : Nat} {t : TypeId} {kd : IntKind} {v : Value} {zs : List Int} (h : Own w lo hi t kd v zs) (h2 : hi ≤ hi') : Own w lo hi' t kd v zs := h.more (Nat.le_refl _) h2

theorem own_cap {w : World} {base n : Nat} {e : TypeId} {size : Nat} {A : Option Addr} {c : Nat} {xs : List Value} (h : w.ownsRow base e size (.slice A n c) n xs) : n ≤ c ∧ c ≤ maxLen := by
  rcases h.2 with ⟨hv, hn⟩ | ⟨g, cap, cur, hv, _, _, h1, h2, _⟩
  · injection hv with _ _ h3
    omega
  · injection hv with _ _ h3
    omega
theorem own_disj {w w' : World} {lo hi lo' hi' : Nat} {t t' : TypeId} {kd kd' : IntKind} {v u : Value} {zs ys : List Int} (h : Own w lo hi t kd v zs) (k : Own w' lo' hi' t' kd' u ys) (hd : hi ≤ lo' ∨ hi' ≤ lo) :
    v.ownBlock = none ∨ v.ownBlock ≠ u.ownBlock := by
  by_cases hv : v.ownBlock = none
  · exact .inl hv
  · refine .inr fun e => ?_
    obtain ⟨g, hg⟩ := Option.ne_none_iff_exists'.1 hv
    have h1 := h.lt g hg
    have h2 := k.lt g (by rw [← e, hg])
    omega

/-- a block that is known whole -/
def Blk (w : World) (g : Nat) (t : TypeId) (cs : Array Value) : Prop := w.heap[g]? = some (.cells cs t (0, 0))
theorem Blk.lt {w : World} {g : Nat} {t : TypeId} {cs : Array Value} (h : Blk w g t cs) : g < w.heap.size := (Array.getElem?_eq_some_iff.1 h).1
theorem Blk.new (w : World) (t : TypeId) (cs : Array Value) : Blk (w.alloc (.cells cs t)) w.heap.size t cs := heap_alloc_new w _
theorem Blk.alloc {w : World} {g : Nat} {t : TypeId} {cs : Array Value} (h : Blk w g t cs) (o : Obj) : Blk (w.alloc o) g t cs := (Below.heap_alloc w o g h.lt).trans h
theorem Blk.below {w w' : World} {g B : Nat} {t : TypeId} {cs : Array Value} (h : Blk w g t cs) (hb : Below B w w') (hg : g < B) : Blk w' g t cs := (hb.block g hg).trans h
theorem Blk.out {w w' : World} {g lo hi : Nat} {t : TypeId} {cs : Array Value} (h : Blk w g t cs) (hb : Out lo hi w w') (hg : g < lo ∨ hi ≤ g) : Blk w' g t cs := (hb.block g h.lt (by omega)).trans h
theorem Blk.cell {w : World} {g : Nat} {t : TypeId} {cs : Array Value} (h : Blk w g t cs) (i : Nat) {u : Value} (hu : cs[i]? = some u) : w.cell? ⟨g, i, none⟩ = some u := (cell_of_row w g i cs t (0, 0) h).trans hu
theorem Blk.set {w : World} {g : Nat} {t : TypeId} {cs : Array Value} (h : Blk w g t cs) (i : Nat) (u : Value) : Blk (w.setCell ⟨g, i, none⟩ u) g t (cs.setIfInBounds i u) := by
  unfold Blk at h ⊢
  simp [World.setCell, Array.getElem?_modify, h]
theorem Blk.frozen {w : World} {g : Nat} {t : TypeId} {cs : Array Value} (h : Blk w g t cs) (i : Nat) : w.frozen? ⟨g, i, none⟩ = false := frozen_of_row w g i cs t h

theorem alloc_lt (w : World) (o : Obj) : w.heap.size < (w.alloc o).heap.size := by simp
theorem below_alloc {w w' : World} {o : Obj} (b : Below (w.alloc o).heap.size (w.alloc o) w') : Below w.heap.size w w' :=
  ((Below.refl _ _).alloc (Nat.le_refl _) o).trans (b.mono (by simp))
theorem below_drawn {w w' : World} {n : Nat} (h : w' = w.drewN n) : Below w.heap.size w w' := by subst h; exact below_draw w n _
theorem own_ne_symm {v u : Value} (h : v.ownBlock = none ∨ v.ownBlock ≠ u.ownBlock) : u.ownBlock = none ∨ u.ownBlock ≠ v.ownBlock := by
  rcases h with h | h
  · by_cases hu : u.ownBlock = none
    · exact .inl hu
    · exact .inr (by rw [h]; exact hu)
  · exact .inr (fun e => h e.symm)

/-- a quiet call inside a region that draws, behind other draws or none -/
theorem quiet_add {P : Program} {f : FuncId} {args : Array Value} {w : World} {a n : Nat} {v : Value}
    (h : Calls P f args (w.drewN (a + n)) fun e w' => e = .returned v ∧ ∃ m, w' = (w.drewN (a + n)).drewN m) :
    Calls P f args (w.drewN (a + n)) fun e w'' => e = .returned v ∧ ∃ m, w'' = w.drewN (a + m) :=
  h.mono fun _ _ ⟨he, m, hm⟩ => ⟨he, n + m, by rw [hm, World.drewN_drewN, Nat.add_assoc]⟩
theorem quiet_own {P : Program} {f : FuncId} {args : Array Value} {w : World} {n : Nat} {v : Value}
    (h : Calls P f args (w.drewN n) fun e w' => e = .returned v ∧ ∃ m, w' = (w.drewN n).drewN m) :
    Calls P f args (w.drewN n) fun e w'' => e = .returned v ∧ ∃ m, w'' = w.drewN m :=
  h.mono fun _ _ ⟨he, m, hm⟩ => ⟨he, n + m, by rw [hm, World.drewN_drewN]⟩
/-- a contract that leaves the world, or draws, with its value put otherwise -/
theorem same_draw {P : Program} {f : FuncId} {args : Array Value} {w : World} {v v' : Value} (h : Calls P f args w fun e w' => e = .returned v ∧ w = w') (hv : v = v') :
    Calls P f args w fun e w' => e = .returned v' ∧ ∃ m, w' = w.drewN m := h.mono fun _ _ ⟨he, hw⟩ => ⟨by rw [he, hv], 0, by subst hw; rfl⟩
theorem draw_draw {P : Program} {f : FuncId} {args : Array Value} {w : World} {v v' : Value} (h : Calls P f args w fun e w' => e = .returned v ∧ ∃ m, w' = w.drewN m) (hv : v = v') :
    Calls P f args w fun e w' => e = .returned v' ∧ ∃ m, w' = w.drewN m := h.mono fun _ _ ⟨he, hw⟩ => ⟨by rw [he, hv], hw⟩

theorem below_of_drew {w w' : World} {n : Nat} (h : Below (w.drewN n).heap.size (w.drewN n) w') : Below w.heap.size w w' := ⟨h.os, h.tape, h.output, h.size, h.block⟩

theorem rbool {a b : Bool} (h : a = b) : Ending.returned (.bool a) = .returned (.bool b) := by rw [h]
theorem rint {k : IntKind} {a b : Int} (h : a = b) : Ending.returned (.int k a) = .returned (.int k b) := by rw [h]
/-- a byte -/
def isByte (b : Int) : Prop := 0 ≤ b ∧ b ≤ 255
theorem bytes_of {bs : List Int} (h : ∀ n ∈ bs, (Lit.int .u8 n).wf = true) : ∀ b ∈ bs, isByte b := by
  intro b hb
  have := h b hb
  have h1 : IntKind.u8.min = 0 := rfl
  have h2 : IntKind.u8.max = 255 := rfl
  simp only [Lit.wf, Bool.and_eq_true, decide_eq_true_eq, h1, h2] at this
  exact this
end Go.Proofs.YtcfnhjpmihngdaaGreat

namespace Go.Proofs.YtcfnhjpmihngdaaGreat
open Go.RowKit

set_option maxRecDepth 100000 in
set_option maxHeartbeats 400000 in
theorem l1In_any (v a b : Int) (w : World) :
    Calls Tryz.prog 21 #[.int .i64 v, .int .i64 a, .int .i64 b] w fun e w' => e = .returned (.bool (decide (a ≤ v ∧ v ≤ b))) ∧ w = w' := by
  by_cases h1 : a ≤ v
  all_goals by_cases h2 : v ≤ b
  all_goals
    go_enter Tryz.func21, Tryz.ntmps21
    go_wp2
    go_ret
    exact ⟨by simp_all, rfl⟩

theorem specIsChar_any (c : Int) (w : World) :
    Calls Tryz.prog 42 #[.int .i64 c] w fun e w' => e = .returned (.bool (decide ((0 ≤ c ∧ c ≤ 55295) ∨ (57344 ≤ c ∧ c ≤ 1114111)))) ∧ w = w' := by
  by_cases h1 : (0 ≤ c ∧ c ≤ 55295)
  all_goals
    go_enter Tryz.func42, Tryz.ntmps42
    go_wp2_with (go_at_call 21; refine (l1In_any _ _ _ _).mono ?_; rintro e w' ⟨rfl, rfl⟩)
    go_ret
    refine ⟨rbool ?_, rfl⟩
    simp [h1]
/-- whether n is in one of the spans -/
def spans (n : Int) : List Int → Bool
  | a :: b :: r => (decide (a ≤ n) && decide (n ≤ b)) || spans n r
  | _ => false

theorem spans_step (n : Int) (zs : List Int) (k : Nat) (h : k + 1 < zs.length) :
    spans n (zs.drop k) = ((decide (nth zs k ≤ n) && decide (n ≤ nth zs (k+1))) || spans n (zs.drop (k + 2))) := by
  rw [drop_nth zs k (by omega), drop_nth zs (k + 1) (by omega)]
  rfl

theorem spans_end (n : Int) (zs : List Int) (k : Nat) (h : zs.length ≤ k + 1) : spans n (zs.drop k) = false := by
  have hl : (zs.drop k).length ≤ 1 := by simp; omega
  match zs.drop k, hl with
  | [], _ => rfl
  | [_], _ => rfl

set_option maxRecDepth 100000 in
set_option maxHeartbeats 400000 in
theorem within_any (n : Int) (A : Option Addr) (zs : List Int) (c : Nat) (w : World) (B : Nat) (hr : Rd w B A (nums .i64 zs)) (hl : zs.length ≤ 1000) :
    Calls Tryz.prog 67 #[.int .i64 n, .slice A zs.length c] w fun e w' => e = .returned (.bool (spans n zs)) ∧ w = w' := by
  go_enter Tryz.func67, Tryz.ntmps67
  go_wp2
  have HR := Lib.hid hr
  clear hr
  go_loop [5] (fun i => ∃ k : Nat, k ≤ zs.length + 1 ∧ i = .int .i64 k ∧ Hid (spans n zs = spans n (zs.drop k))) (fun i => zs.length + 1 - (intOf i).toNat)
  case atStart => exact ⟨0, by omega, rfl, rfl⟩
  case round =>
    obtain ⟨k, hk, rfl, hs⟩ := hrel
    by_cases hlt : k + 1 < zs.length
    · obtain ⟨b, off, rfl, hb, hc⟩ := HR.out.int (by omega)
      have hc0 := hc k (by omega)
      have hc1 := hc (k + 1) hlt
      clear hc
      have hstep := Lib.hid (spans_step n zs k hlt)
      by_cases h1 : nth zs k ≤ n
      · by_cases h2 : n ≤ nth zs (k+1)
        · go_wp2
          go_ret
          refine ⟨rbool ?_, rfl⟩
          rw [hs.out, hstep.out]; simp [h1, h2]
        · go_wp2
          go_round
          case rel => exact ⟨k + 2, by omega, by go_num, Lib.hid (by rw [hs.out, hstep.out]; simp [h1, h2])⟩
          case measure => simp [intOf]; omega
      · go_wp2
        go_round
        case rel => exact ⟨k + 2, by omega, by go_num, Lib.hid (by rw [hs.out, hstep.out]; simp [h1])⟩
        case measure => simp [intOf]; omega
    · go_wp2
      go_ret
      exact ⟨rbool (by rw [hs.out, spans_end _ _ _ (by omega)]), rfl⟩
set_option maxRecDepth 100000 in
set_option maxHeartbeats 400000 in
theorem isChar_any (c : Int) (w : World) :
    Calls Tryz.prog 89 #[.int .i64 c] w fun e w' => e = .returned (.bool (decide ((0 ≤ c ∧ c ≤ 55295) ∨ (57344 ≤ c ∧ c ≤ 1114111)))) ∧ Below w.heap.size w w' := by
  go_enter Tryz.func89, Tryz.ntmps89
  go_wp2_with (go_at_call 67; refine (within_any c _ [0, 55295, 57344, 1114111] 4 _ _ (Rd.lit w #[.int .i64 0, .int .i64 55295, .int .i64 57344, .int .i64 1114111] 2) (by simp)).mono ?_; rintro e w' ⟨rfl, rfl⟩)
  go_ret
  refine ⟨rbool ?_, (Below.refl _ _).alloc (Nat.le_refl _) _⟩
  simp only [spans, Bool.or_false]
  rw [Bool.eq_iff_iff]; simp
end Go.Proofs.YtcfnhjpmihngdaaGreat

namespace Go.Proofs.YtcfnhjpmihngdaaGreat
open Go.ChangeShapes Go.WideShapes Go.ChangeAt Go.RowKit

theorem trodAll_kept {H : Type} {enc : TypeId × Value → H} {P : Program} (hl : laidOutB P = true) {W W' : World} (hb : Below W.heap.size W W') :
    ∀ (ts : List TypeId) (vs : List Value) (ds : List (DataW H)) (ps : List MemPlace), (∀ t ∈ ts, P.readableRec t = true ∧ t < P.types.size) →
      DataW.TrodAll enc P W 0 (fun _ => true) true ts vs ds ps → (∀ x ∈ ps, x.block < W.heap.size) →
      DataW.TrodAll enc P W' 0 (fun b => decide (b < W.heap.size)) true ts vs ds ps
  | [], [], [], ps, _, h, _ => h
  | t :: ts, v :: vs, d :: ds, ps, ht, h, hlt => by
    obtain ⟨p, q, h1, h2, rfl⟩ := h
    exact ⟨p, q, Below.trod hl (ht t (by simp)).1 (ht t (by simp)).2 h1 hb (fun x hx => hlt x (by simp [hx])),
      trodAll_kept hl hb ts vs ds q (fun t' h' => ht t' (by simp [h'])) h2 (fun x hx => hlt x (by simp [hx])), rfl⟩
  | [], _ :: _, _, _, _, h, _ => by simp [DataW.TrodAll] at h
  | [], [], _ :: _, _, _, h, _ => by simp [DataW.TrodAll] at h
  | _ :: _, [], _, _, _, h, _ => by simp [DataW.TrodAll] at h
  | _ :: _, _ :: _, [], _, _, h, _ => by simp [DataW.TrodAll] at h

theorem law_post {H : Type} {enc : TypeId × Value → H} {P : Program} {f : Func} {s : ChangeSpec} {tb : TypeId} {W W' : World} {args : Array Value} {ds : List (DataW H)} {before : List MemPlace}
    (hl : laidOutB P = true) (hts : ∀ t ∈ f.params.toList, P.readableRec t = true ∧ t < P.types.size) (hres : f.resultTypes = #[tb]) (htb : P.underlying tb = some .bool)
    (hvars : s.vars = []) (hr : (s.fn H ds).results = [.lit (.bool true)]) (ha : (s.fn H ds).args = ds) (hv : (s.fn H ds).vars = [])
    (hW : DataW.Whole enc P f.params.toList s.vars false W args.toList ds [] before) (hb : Below W.heap.size W W') :
    s.post enc P f false true false false W args (.bool true) W' := by
  have hW' := hW
  obtain ⟨p, q, hA, hV, rfl, _, _⟩ := hW
  rw [hvars] at hV
  obtain ⟨_, rfl⟩ := trodVars_none hV
  refine ⟨ds, [], p ++ [], [], p, [], hW', ?_, ?_, ?_, hb.frame _, fun h => by cases h⟩
  · rw [List.append_nil, hr, hres]
    exact trodAll_mk1 (shut_bool htb true)
  · rw [List.append_nil, ha]
    exact trodAll_kept hl hb _ _ _ _ hts hA (fun x hx => by simpa using hW'.lt x (by simpa using hx))
  · rw [List.append_nil, hv, hvars]
    rfl

/-- The same where the row names variables of the program's own. -/
theorem law_postV {H : Type} {enc : TypeId × Value → H} {P : Program} {f : Func} {s : ChangeSpec} {tb : TypeId} {W W' : World} {args : Array Value} {ds gs : List (DataW H)} {before : List MemPlace}
    (hl : laidOutB P = true) (hts : ∀ t ∈ f.params.toList, P.readableRec t = true ∧ t < P.types.size) (hvs : varsRowed P s.vars = true) (hres : f.resultTypes = #[tb]) (htb : P.underlying tb = some .bool)
    (hr : (s.fn H (ds ++ gs)).results = [.lit (.bool true)]) (ha : (s.fn H (ds ++ gs)).args = ds) (hv : (s.fn H (ds ++ gs)).vars = gs)
    (hW : DataW.Whole enc P f.params.toList s.vars false W args.toList ds gs before) (hb : Below W.heap.size W W') :
    s.post enc P f false true false false W args (.bool true) W' := by
  have hW' := hW
  obtain ⟨p, q, hA, hV, rfl, _, _⟩ := hW
  refine ⟨ds, gs, p ++ q, [], p, q, hW', ?_, ?_, ?_, hb.frame _, fun h => by cases h⟩
  · rw [hr, hres]
    exact trodAll_mk1 (shut_bool htb true)
  · rw [ha]
    exact trodAll_kept hl hb _ _ _ _ hts hA (fun x hx => by simpa using hW'.lt x (by simp [hx]))
  · rw [hv]
    exact Below.trodVars hl hb hvs hV

/-- An argument that is a slice of numbers: the numbers, and that it reads so. -/
theorem open_nums {H : Type} {enc : TypeId × Value → H} {P : Program} {W : World} {r : Reach} {base : Nat} {t e : TypeId} {kd : IntKind} {v : Value} {d : DataW H} {p : List MemPlace}
    (ht : P.underlying t = some (.slice e)) (he : P.underlying e = some (.int kd)) (hc : P.cellsOf e = 1) (hv : Value.okWide P W r base t v)
    (h : DataW.Trod enc P W 0 (fun _ => true) true t v d p) (hlt : ∀ x ∈ p, x.block < W.heap.size) :
    ∃ (A : Option Addr) (zs : List Int) (c : Nat), v = .slice A zs.length c ∧ Rd W W.heap.size A (nums kd zs) ∧ ∀ n ∈ zs, (Lit.int kd n).wf = true := by
  obtain ⟨a0, len, cap, rfl⟩ := okWide_slice ht hv
  obtain ⟨fuel, hf⟩ := h
  rcases open_ints ht he hc hf with ⟨hcs, hx⟩ | ⟨a, len', cap', zs, hcs, _, hl, hm, hz, hx, hcell, hwz⟩
  · simp [Value.cells] at hcs
    obtain ⟨rfl, rfl, rfl⟩ := hcs
    exact ⟨none, [], 0, rfl, Rd.nil _ _ _, by simp⟩
  · simp [Value.cells] at hcs
    obtain ⟨rfl, rfl, rfl⟩ := hcs
    simp only [Prod.mk.injEq] at hx
    obtain ⟨rfl, rfl⟩ := hx
    simp only [if_true] at hz
    refine ⟨some a, zs.take len, cap, by simp; omega, ?_, fun n hn => hwz n (List.mem_of_mem_take hn)⟩
    intro k u hu
    have hk : k < (zs.take len).length := by
      have := (List.getElem?_eq_some_iff.1 hu).1
      simpa [nums] using this
    have hk' : k < zs.length := by simp at hk; omega
    obtain ⟨b, off, spot⟩ := a
    have hspot : spot = none := by simpa [Addr.add] using World.cell?_spot (hcell 0 (by omega))
    subst hspot
    rw [nums_get _ _ _ hk] at hu
    injection hu with hu
    refine ⟨b, off, rfl, hlt (.cell b off) (MemPlace.mem_row.2 ⟨0, by omega, by simp⟩), ?_⟩
    rw [← add_plain, hcell k hk', ← hu]
    have : k < len := by simp at hk; omega
    simp [nth, this, List.getD]
end Go.Proofs.YtcfnhjpmihngdaaGreat
