/- Rows whose cells hold slices of numbers of the call's own: memory facts. No program is named here. -/
import Derived.Test.YtmcmfklkljehiaaB0
namespace Go.Proofs.Ytmcmfklkljehiaa
open Go.RowKit

/-- what a cell that is a slice of numbers holds -/
structure Cont where
  t : TypeId
  kd : IntKind
  zs : List Int

/-- v is a slice of n elements of 'size' cells each, the call's own; its cells are us; those that cs names are slices of the call's own, no two in one block -/
structure OwnC (w : World) (lo hi : Nat) (tt : TypeId) (size : Nat) (v : Value) (n : Nat) (us : List Value) (cs : Nat → Option Cont) : Prop where
  row : w.ownsRow lo tt size v n us
  top : ∀ g, v.ownBlock = some g → g < hi
  each : ∀ k c, cs k = some c → ∃ u, us[k]? = some u ∧ Own w lo hi c.t c.kd u c.zs
  bare : ∀ (k : Nat) (u : Value), us[k]? = some u → cs k = none → u.ownBlock = none
  apart : ∀ (i j : Nat) (u u' : Value), i < j → us[i]? = some u → us[j]? = some u' → u.ownBlock = none ∨ u.ownBlock ≠ u'.ownBlock
  off : ∀ (k : Nat) (u : Value), us[k]? = some u → u.ownBlock = none ∨ u.ownBlock ≠ v.ownBlock

theorem ownsRow_keep {w w' : World} {base n : Nat} {e : TypeId} {size : Nat} {v : Value} {xs : List Value} (h : w.ownsRow base e size v n xs) (hk : ∀ g, v.ownBlock = some g → w'.heap[g]? = w.heap[g]?) : w'.ownsRow base e size v n xs := by
  refine ⟨h.1, ?_⟩
  rcases h.2 with hn | ⟨g, cap, cur, rfl, hb, hg, rest⟩
  · exact .inl hn
  · exact .inr ⟨g, cap, cur, rfl, hb, by rw [hk g rfl]; exact hg, rest⟩

section
variable {w w' : World} {lo hi : Nat} {tt : TypeId} {size : Nat} {v : Value} {n : Nat} {us : List Value} {cs : Nat → Option Cont}

theorem OwnC.lts (h : OwnC w lo hi tt size v n us cs) : ∀ (k : Nat) (u : Value) (g : Nat), us[k]? = some u → u.ownBlock = some g → lo ≤ g ∧ g < hi ∧ g < w.heap.size := by
  intro k u g hu hg
  cases hc : cs k with
  | none => rw [h.bare k u hu hc] at hg; cases hg
  | some c =>
    obtain ⟨u', h1, h2⟩ := h.each k c hc
    rw [hu] at h1
    injection h1 with h1
    subst h1
    have := h2.lt g hg
    have := h2.1.lt g hg
    omega
theorem OwnC.vlt (h : OwnC w lo hi tt size v n us cs) : ∀ g, v.ownBlock = some g → lo ≤ g ∧ g < hi ∧ g < w.heap.size := fun g hg => ⟨(h.row.lt g hg).1, h.top g hg, (h.row.lt g hg).2⟩
theorem OwnC.keep (h : OwnC w lo hi tt size v n us cs) (hk : ∀ k, k < w.heap.size → lo ≤ k → k < hi → w'.heap[k]? = w.heap[k]?) : OwnC w' lo hi tt size v n us cs :=
  ⟨ownsRow_keep h.row fun g hg => hk g (h.row.lt g hg).2 (h.row.lt g hg).1 (h.top g hg), h.top,
   fun k c hc => by obtain ⟨u, h1, h2⟩ := h.each k c hc; exact ⟨u, h1, h2.keep hk⟩, h.bare, h.apart, h.off⟩
theorem OwnC.below {B : Nat} (h : OwnC w lo hi tt size v n us cs) (hb : Below B w w') (hB : hi ≤ B) : OwnC w' lo hi tt size v n us cs :=
  h.keep fun k _ _ hk => hb.block k (Nat.lt_of_lt_of_le hk hB)
theorem OwnC.out {lo' hi' : Nat} (h : OwnC w lo hi tt size v n us cs) (hb : Out lo' hi' w w') (hd : hi ≤ lo' ∨ hi' ≤ lo) : OwnC w' lo hi tt size v n us cs :=
  h.keep fun k hk h1 h2 => hb.block k hk (by omega)
theorem OwnC.alloc (h : OwnC w lo hi tt size v n us cs) (o : Obj) : OwnC (w.alloc o) lo hi tt size v n us cs := h.keep fun k hk _ _ => Below.heap_alloc w o k hk
theorem OwnC.set (h : OwnC w lo hi tt size v n us cs) (p : Addr) (u : Value) (hp : p.block < lo ∨ hi ≤ p.block) : OwnC (w.setCell p u) lo hi tt size v n us cs :=
  h.keep fun k _ h1 h2 => heap_setCell_other w p k u (by omega)
theorem OwnC.more {lo' hi' : Nat} (h : OwnC w lo hi tt size v n us cs) (h1 : lo' ≤ lo) (h2 : hi ≤ hi') : OwnC w lo' hi' tt size v n us cs :=
  ⟨own_more h.row h1, fun g hg => Nat.lt_of_lt_of_le (h.top g hg) h2, fun k c hc => by obtain ⟨u, a, b⟩ := h.each k c hc; exact ⟨u, a, b.more h1 h2⟩, h.bare, h.apart, h.off⟩
theorem OwnC.drew (h : OwnC w lo hi tt size v n us cs) (k : Nat) : OwnC (w.drewN k) lo hi tt size v n us cs := h.keep fun _ _ _ _ => rfl
/-- another block has turned -/
theorem OwnC.grown {b : Option Nat} (h : OwnC w lo hi tt size v n us cs) (hg : w.grownBy w' b) (hv : v.ownBlock = none ∨ v.ownBlock ≠ b) (hu : ∀ (k : Nat) (u : Value), us[k]? = some u → u.ownBlock = none ∨ u.ownBlock ≠ b) : OwnC w' lo hi tt size v n us cs :=
  ⟨h.row.kept hg hv, h.top, fun k c hc => by
    obtain ⟨u, a, o⟩ := h.each k c hc
    refine ⟨u, a, ⟨o.1.kept hg (hu k u a), o.2⟩⟩, h.bare, h.apart, h.off⟩
theorem OwnC.nil (w : World) (lo hi : Nat) (tt : TypeId) (size : Nat) : OwnC w lo hi tt size (.slice none 0 0) 0 [] (fun _ => none) :=
  ⟨World.ownsRow_nil _ _ _ _, by simp [Value.ownBlock], by simp, by simp, by simp, by simp⟩
/-- one of the slices in it has been written -/
theorem OwnC.turn (h : OwnC w lo hi tt size v n us cs) {k : Nat} {c : Cont} {u : Value} {ys : List Int} (hc : cs k = some c) (hu : us[k]? = some u) (hg : w.grownBy w' u.ownBlock) (ho : Own w' lo hi c.t c.kd u ys) :
    OwnC w' lo hi tt size v n us (fun j => if j = k then some { c with zs := ys } else cs j) := by
  have hne : ∀ (j : Nat) (u' : Value), j ≠ k → us[j]? = some u' → u'.ownBlock = none ∨ u'.ownBlock ≠ u.ownBlock := by
    intro j u' hj hu'
    rcases Nat.lt_or_gt_of_ne hj with hlt | hgt
    · exact h.apart j k u' u hlt hu' hu
    · exact own_ne_symm (h.apart k j u u' hgt hu hu')
  refine ⟨h.row.kept hg (own_ne_symm (h.off k u hu)), h.top, ?_, ?_, h.apart, h.off⟩
  · intro j c' hj
    by_cases e : j = k
    · subst e
      rw [if_pos rfl] at hj
      injection hj with hj
      subst hj
      exact ⟨u, hu, ho⟩
    · rw [if_neg e] at hj
      obtain ⟨u', h1, h2⟩ := h.each j c' hj
      exact ⟨u', h1, ⟨h2.1.kept hg (hne j u' e h1), h2.2⟩⟩
  · intro j u' hu' hj
    by_cases e : j = k
    · rw [if_pos e] at hj; cases hj
    · rw [if_neg e] at hj; exact h.bare j u' hu' hj
/-- elements put behind -/
theorem OwnC.push (h : OwnC w lo hi tt size v n us cs) {v' : Value} {m : Nat} {news : List Value} {cn : Nat → Option Cont} (hrow : w'.ownsRow lo tt size v' (n + m) (us ++ news)) (hg : w.grownBy w' v.ownBlock)
    (hv : v'.ownBlock = v.ownBlock ∨ v'.ownBlock = some w.heap.size) (hhi : hi ≤ w.heap.size)
    (hn : ∀ k c, cn k = some c → ∃ u, news[k]? = some u ∧ Own w lo hi c.t c.kd u c.zs) (hb : ∀ (k : Nat) (u : Value), news[k]? = some u → cn k = none → u.ownBlock = none)
    (a1 : ∀ (i j : Nat) (u u' : Value), i < j → news[i]? = some u → news[j]? = some u' → u.ownBlock = none ∨ u.ownBlock ≠ u'.ownBlock)
    (a2 : ∀ (i j : Nat) (u u' : Value), us[i]? = some u → news[j]? = some u' → u.ownBlock = none ∨ u.ownBlock ≠ u'.ownBlock)
    (a3 : ∀ (k : Nat) (u : Value), news[k]? = some u → u.ownBlock = none ∨ u.ownBlock ≠ v.ownBlock) :
    OwnC w' lo w'.heap.size tt size v' (n + m) (us ++ news) (fun k => if k < us.length then cs k else cn (k - us.length)) := by
  have hsz := hg.size
  have nlt : ∀ (k : Nat) (u : Value) (g : Nat), news[k]? = some u → u.ownBlock = some g → g < hi := by
    intro k u g hu hgb
    cases hc : cn k with
    | none => rw [hb k u hu hc] at hgb; cases hgb
    | some c =>
      obtain ⟨u', h1, h2⟩ := hn k c hc
      rw [hu] at h1
      injection h1 with h1
      subst h1
      exact h2.2 g hgb
  have get : ∀ (k : Nat) (u : Value), (us ++ news)[k]? = some u → (k < us.length ∧ us[k]? = some u) ∨ (us.length ≤ k ∧ news[k - us.length]? = some u) := by
    intro k u hu
    by_cases hk : k < us.length
    · rw [List.getElem?_append_left hk] at hu; exact .inl ⟨hk, hu⟩
    · rw [List.getElem?_append_right (by omega)] at hu; exact .inr ⟨by omega, hu⟩
  refine ⟨hrow, fun g hgb => (hrow.lt g hgb).2, ?_, ?_, ?_, ?_⟩
  · intro k c hc
    by_cases hk : k < us.length
    · simp only [hk, if_true] at hc
      obtain ⟨u, h1, h2⟩ := h.each k c hc
      exact ⟨u, by rw [List.getElem?_append_left hk]; exact h1, ⟨h2.1.kept hg (h.off k u h1), fun g hgb => by have := h2.2 g hgb; omega⟩⟩
    · simp only [hk, if_false] at hc
      obtain ⟨u, h1, h2⟩ := hn _ c hc
      exact ⟨u, by rw [List.getElem?_append_right (by omega)]; exact h1, ⟨h2.1.kept hg (a3 _ u h1), fun g hgb => by have := h2.2 g hgb; omega⟩⟩
  · intro k u hu hc
    rcases get k u hu with ⟨hk, h1⟩ | ⟨hk, h1⟩
    · simp only [hk, if_true] at hc; exact h.bare k u h1 hc
    · have hk' : ¬ k < us.length := by omega
      simp only [hk', if_false] at hc; exact hb _ u h1 hc
  · intro i j u u' hij hu hu'
    rcases get i u hu with ⟨hi1, g1⟩ | ⟨hi1, g1⟩
    · rcases get j u' hu' with ⟨hj, g2⟩ | ⟨hj, g2⟩
      · exact h.apart i j u u' hij g1 g2
      · exact a2 i _ u u' g1 g2
    · rcases get j u' hu' with ⟨hj, g2⟩ | ⟨hj, g2⟩
      · omega
      · exact a1 _ _ u u' (by omega) g1 g2
  · intro k u hu
    have hlt : ∀ g, u.ownBlock = some g → g < hi := by
      intro g hgb
      rcases get k u hu with ⟨hk, h1⟩ | ⟨hk, h1⟩
      · exact (h.lts k u g h1 hgb).2.1
      · exact nlt _ u g h1 hgb
    by_cases hx : u.ownBlock = none
    · exact .inl hx
    · right
      rcases hv with e | e
      · rw [e]
        rcases get k u hu with ⟨hk, h1⟩ | ⟨hk, h1⟩
        · exact (h.off k u h1).resolve_left hx
        · exact (a3 _ u h1).resolve_left hx
      · intro e2
        rw [e] at e2
        have := hlt _ e2
        omega
end

/-- v reads as cells us; those that cs names are slices that read -/
def SeesC (w : World) (B : Nat) (size : Nat) (v : Value) (n : Nat) (us : List Value) (cs : Nat → Option Cont) : Prop :=
  (∃ A c, v = .slice A n c ∧ Rd w B A us) ∧ us.length = n * size ∧ ∀ k c, cs k = some c → ∃ u, us[k]? = some u ∧ Sees w B c.kd u c.zs
section
variable {w w' : World} {B size n : Nat} {v : Value} {us : List Value} {cs : Nat → Option Cont}
theorem SeesC.keep (h : SeesC w B size v n us cs) (hk : ∀ k, k < B → w'.heap[k]? = w.heap[k]?) : SeesC w' B size v n us cs := by
  obtain ⟨⟨A, c, rfl, hr⟩, hl, he⟩ := h
  refine ⟨⟨A, c, rfl, hr.keep fun p hp => by unfold World.cell?; rw [hk p.block hp]⟩, hl, fun k c hc => ?_⟩
  obtain ⟨u, h1, h2⟩ := he k c hc
  exact ⟨u, h1, h2.keep hk⟩
theorem SeesC.below {C : Nat} (h : SeesC w B size v n us cs) (hb : Below C w w') (hB : B ≤ C) : SeesC w' B size v n us cs := h.keep fun k hk => hb.block k (Nat.lt_of_lt_of_le hk hB)
theorem SeesC.out {lo hi : Nat} (h : SeesC w B size v n us cs) (hb : Out lo hi w w') (hB : B ≤ lo) (hw : B ≤ w.heap.size) : SeesC w' B size v n us cs := h.keep fun k hk => hb.block k (by omega) (by omega)
theorem SeesC.alloc (h : SeesC w B size v n us cs) (hB : B ≤ w.heap.size) (o : Obj) : SeesC (w.alloc o) B size v n us cs := h.keep fun k hk => Below.heap_alloc w o k (Nat.lt_of_lt_of_le hk hB)
theorem SeesC.drew (h : SeesC w B size v n us cs) (k : Nat) : SeesC (w.drewN k) B size v n us cs := h
theorem OwnC.sees {lo hi : Nat} {tt : TypeId} (h : OwnC w lo hi tt size v n us cs) : SeesC w hi size v n us cs := by
  obtain ⟨A, c, rfl⟩ := own_form h.row
  refine ⟨⟨A, c, rfl, ?_⟩, h.row.1, fun k c hc => ?_⟩
  · intro k u hu
    obtain ⟨b, off, rfl, hb, hc⟩ := Rd.of h.row k u hu
    exact ⟨b, off, rfl, h.top b rfl, hc⟩
  · obtain ⟨u, h1, h2⟩ := h.each k c hc
    exact ⟨u, h1, h2.sees⟩
end

/-! slices of slices of numbers -/
def contsL (t : TypeId) (kd : IntKind) (zss : List (List Int)) : Nat → Option Cont := fun k => zss[k]?.map fun zs => ⟨t, kd, zs⟩
/-- an element, closed to simp -/
def nthL (zss : List (List Int)) (k : Nat) : List Int := zss[k]?.getD []
theorem nthL_get (zss : List (List Int)) (k : Nat) (h : k < zss.length) : zss[k]? = some (nthL zss k) := by simp [nthL, List.getElem?_eq_getElem h]
theorem contsL_get (t : TypeId) (kd : IntKind) (zss : List (List Int)) (k : Nat) (h : k < zss.length) : contsL t kd zss k = some ⟨t, kd, nthL zss k⟩ := by
  unfold contsL; rw [nthL_get zss k h]; rfl
theorem contsL_none (t : TypeId) (kd : IntKind) (zss : List (List Int)) (k : Nat) (h : zss.length ≤ k) : contsL t kd zss k = none := by
  unfold contsL; rw [List.getElem?_eq_none h]; rfl
theorem contsL_app (t : TypeId) (kd : IntKind) (zss : List (List Int)) (zs : List Int) (l : Nat) (hl : l = zss.length) :
    (fun k => if k < l then contsL t kd zss k else contsL t kd [zs] (k - l)) = contsL t kd (zss ++ [zs]) := by
  subst hl
  funext k
  by_cases hk : k < zss.length
  · rw [if_pos hk, contsL_get _ _ _ _ hk]
    unfold contsL
    rw [List.getElem?_append_left hk, nthL_get _ _ hk]; rfl
  · rw [if_neg hk]
    unfold contsL
    rw [List.getElem?_append_right (by omega)]
theorem contsL_set (t : TypeId) (kd : IntKind) (zss : List (List Int)) (k : Nat) (ys : List Int) (hk : k < zss.length) :
    (fun j => if j = k then some { (⟨t, kd, nthL zss k⟩ : Cont) with zs := ys } else contsL t kd zss j) = contsL t kd (zss.set k ys) := by
  funext j
  by_cases e : j = k
  · subst e
    rw [if_pos rfl]
    unfold contsL
    rw [List.getElem?_set_self hk]; rfl
  · rw [if_neg e]
    unfold contsL
    rw [List.getElem?_set_ne (by omega)]

/-- v is a slice of slices of numbers, all the call's own, no two in one block -/
def OwnSS (w : World) (lo hi : Nat) (tt t : TypeId) (kd : IntKind) (v : Value) (zss : List (List Int)) : Prop := ∃ us, OwnC w lo hi tt 1 v zss.length us (contsL t kd zss)
def SeesSS (w : World) (B : Nat) (kd : IntKind) (v : Value) (zss : List (List Int)) : Prop := ∃ us, SeesC w B 1 v zss.length us (contsL 0 kd zss)
section
variable {w w' : World} {lo hi B : Nat} {tt t : TypeId} {kd : IntKind} {v : Value} {zss : List (List Int)}
theorem OwnSS.form (h : OwnSS w lo hi tt t kd v zss) : ∃ A c, v = .slice A zss.length c := by obtain ⟨us, h⟩ := h; exact own_form h.row
theorem OwnSS.nil (w : World) (lo hi : Nat) (tt t : TypeId) (kd : IntKind) : OwnSS w lo hi tt t kd (.slice none 0 0) [] := ⟨[], by
  have := OwnC.nil w lo hi tt 1
  exact this⟩
theorem OwnSS.vlt (h : OwnSS w lo hi tt t kd v zss) : ∀ g, v.ownBlock = some g → lo ≤ g ∧ g < hi := by obtain ⟨us, h⟩ := h; exact fun g hg => ⟨(h.vlt g hg).1, (h.vlt g hg).2.1⟩
theorem OwnSS.below {C : Nat} (h : OwnSS w lo hi tt t kd v zss) (hb : Below C w w') (hB : hi ≤ C) : OwnSS w' lo hi tt t kd v zss := by obtain ⟨us, h⟩ := h; exact ⟨us, h.below hb hB⟩
theorem OwnSS.out {lo' hi' : Nat} (h : OwnSS w lo hi tt t kd v zss) (hb : Out lo' hi' w w') (hd : hi ≤ lo' ∨ hi' ≤ lo) : OwnSS w' lo hi tt t kd v zss := by obtain ⟨us, h⟩ := h; exact ⟨us, h.out hb hd⟩
theorem OwnSS.alloc (h : OwnSS w lo hi tt t kd v zss) (o : Obj) : OwnSS (w.alloc o) lo hi tt t kd v zss := by obtain ⟨us, h⟩ := h; exact ⟨us, h.alloc o⟩
theorem OwnSS.set (h : OwnSS w lo hi tt t kd v zss) (p : Addr) (u : Value) (hp : p.block < lo ∨ hi ≤ p.block) : OwnSS (w.setCell p u) lo hi tt t kd v zss := by obtain ⟨us, h⟩ := h; exact ⟨us, h.set p u hp⟩
theorem OwnSS.more {lo' hi' : Nat} (h : OwnSS w lo hi tt t kd v zss) (h1 : lo' ≤ lo) (h2 : hi ≤ hi') : OwnSS w lo' hi' tt t kd v zss := by obtain ⟨us, h⟩ := h; exact ⟨us, h.more h1 h2⟩
theorem OwnSS.keep (h : OwnSS w lo hi tt t kd v zss) (hk : ∀ k, k < w.heap.size → lo ≤ k → k < hi → w'.heap[k]? = w.heap[k]?) : OwnSS w' lo hi tt t kd v zss := by obtain ⟨us, h⟩ := h; exact ⟨us, h.keep hk⟩
theorem OwnSS.sees (h : OwnSS w lo hi tt t kd v zss) : SeesSS w hi kd v zss := by
  obtain ⟨us, h⟩ := h
  obtain ⟨a, b, c⟩ := h.sees
  refine ⟨us, a, b, fun k c' hc => ?_⟩
  have hk : k < zss.length := by
    apply Classical.byContradiction; intro hn
    rw [contsL_none _ _ _ _ (by omega)] at hc; cases hc
  rw [contsL_get _ _ _ _ hk] at hc
  injection hc with hc
  subst hc
  obtain ⟨u, h1, h2⟩ := c k _ (contsL_get t kd zss k hk)
  exact ⟨u, h1, h2⟩
theorem SeesSS.below {C : Nat} (h : SeesSS w B kd v zss) (hb : Below C w w') (hB : B ≤ C) : SeesSS w' B kd v zss := by obtain ⟨us, h⟩ := h; exact ⟨us, h.below hb hB⟩
theorem SeesSS.out (h : SeesSS w B kd v zss) (hb : Out lo hi w w') (hB : B ≤ lo) (hw : B ≤ w.heap.size) : SeesSS w' B kd v zss := by obtain ⟨us, h⟩ := h; exact ⟨us, h.out hb hB hw⟩
theorem SeesSS.alloc (h : SeesSS w B kd v zss) (hB : B ≤ w.heap.size) (o : Obj) : SeesSS (w.alloc o) B kd v zss := by obtain ⟨us, h⟩ := h; exact ⟨us, h.alloc hB o⟩
theorem SeesSS.more {B' : Nat} (h : SeesSS w B kd v zss) (hB : B ≤ B') : SeesSS w B' kd v zss := by
  obtain ⟨us, ⟨A, c, e, r⟩, hl, he⟩ := h
  exact ⟨us, ⟨A, c, e, r.more hB⟩, hl, fun k c' hc => by obtain ⟨u, h1, A', c'', e', r'⟩ := he k c' hc; exact ⟨u, h1, A', c'', e', r'.more hB⟩⟩
theorem SeesSS.drew (h : SeesSS w B kd v zss) (k : Nat) : SeesSS (w.drewN k) B kd v zss := h
/-- where the k-th lies, and that it reads -/
theorem SeesSS.at_ (h : SeesSS w B kd v zss) (k : Nat) (hk : k < zss.length) : ∃ b off c u, v = .slice (some ⟨b, off, none⟩) zss.length c ∧ b < B ∧ w.cell? ⟨b, off + k, none⟩ = some u ∧ Sees w B kd u (nthL zss k) := by
  obtain ⟨us, ⟨A, c, rfl, hr⟩, hl, he⟩ := h
  obtain ⟨u, h1, h2⟩ := he k _ (contsL_get 0 kd zss k hk)
  obtain ⟨b, off, rfl, hb, hc⟩ := hr k u h1
  exact ⟨b, off, c, u, rfl, hb, hc, h2⟩
/-- the k-th: where it lies, and what comes of a write into it -/
theorem OwnSS.at_ (h : OwnSS w lo hi tt t kd v zss) (k : Nat) (hk : k < zss.length) : ∃ g c u, v = .slice (some ⟨g, 0, none⟩) zss.length c ∧ w.cell? ⟨g, k, none⟩ = some u ∧ Own w lo hi t kd u (nthL zss k) ∧
    ∀ w' ys, w.grownBy w' u.ownBlock → Own w' lo hi t kd u ys → OwnSS w' lo hi tt t kd v (zss.set k ys) := by
  obtain ⟨us, h⟩ := h
  obtain ⟨u, h1, h2⟩ := h.each k _ (contsL_get t kd zss k hk)
  have hrow := h.row
  rcases hrow.2 with ⟨_, h0⟩ | ⟨g, cap, cur, hv, hb, hg, hn, hm, hs, htk⟩
  · omega
  · subst hv
    refine ⟨g, cap, u, rfl, ?_, h2, fun w' ys hg' ho => ⟨us, ?_⟩⟩
    · rw [hrow.cellAt k (by omega)]; exact h1
    · have := h.turn (contsL_get t kd zss k hk) h1 hg' ho
      rw [contsL_set t kd zss k ys hk] at this
      rw [List.length_set]
      exact this
/-- one slice put behind -/
theorem OwnSS.push (h : OwnSS w lo hi tt t kd v zss) {us : List Value} (hus : ∀ us', OwnC w lo hi tt 1 v zss.length us' (contsL t kd zss) → us' = us) {v' u : Value} {zs : List Int}
    (hrow : w'.ownsRow lo tt 1 v' (zss.length + 1) (us ++ [u])) (hg : w.grownBy w' v.ownBlock) (hv : v'.ownBlock = v.ownBlock ∨ v'.ownBlock = some w.heap.size) (hhi : hi ≤ w.heap.size)
    (ho : Own w lo hi t kd u zs) (a2 : ∀ (i : Nat) (x : Value), us[i]? = some x → x.ownBlock = none ∨ x.ownBlock ≠ u.ownBlock) (a3 : u.ownBlock = none ∨ u.ownBlock ≠ v.ownBlock) : OwnSS w' lo w'.heap.size tt t kd v' (zss ++ [zs]) := by
  obtain ⟨us', h⟩ := h
  obtain rfl := hus us' h
  have hl := h.row.1
  rw [Nat.mul_one] at hl
  have := h.push (cn := contsL t kd [zs]) hrow hg hv hhi
    (fun k c hc => by
      have hk : k = 0 := by
        apply Classical.byContradiction; intro hn
        rw [contsL_none _ _ _ _ (by simp; omega)] at hc; cases hc
      subst hk
      rw [contsL_get _ _ _ _ (by simp)] at hc
      injection hc with hc
      subst hc
      exact ⟨u, rfl, ho⟩)
    (fun k x hx hc => by
      have hk : k = 0 := by have := (List.getElem?_eq_some_iff.1 hx).1; simp at this; exact this
      subst hk
      rw [contsL_get _ _ _ _ (by simp)] at hc; cases hc)
    (fun i j x y hij hx hy => by have := (List.getElem?_eq_some_iff.1 hy).1; simp at this; omega)
    (fun i j x y hx hy => by
      have hk : j = 0 := by have := (List.getElem?_eq_some_iff.1 hy).1; simp at this; exact this
      subst hk
      simp at hy
      subst hy
      exact a2 i x hx)
    (fun k x hx => by
      have hk : k = 0 := by have := (List.getElem?_eq_some_iff.1 hx).1; simp at this; exact this
      subst hk
      simp at hx
      subst hx
      exact a3)
  rw [contsL_app t kd zss zs us'.length hl] at this
  refine ⟨us' ++ [u], ?_⟩
  rw [List.length_append]
  exact this
end
end Go.Proofs.Ytmcmfklkljehiaa
