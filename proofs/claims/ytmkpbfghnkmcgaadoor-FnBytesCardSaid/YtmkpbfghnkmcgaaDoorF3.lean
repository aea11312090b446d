/- FnBytes: its mathematics, the cuts of a slice, an append at a step of a region that draws. -/
import Derived.Test.YtmkpbfghnkmcgaaDoorF1
import Derived.Test.YtmkpbfghnkmcgaaDoorM4
import Derived.Test.YtmkpbfghnkmcgaaDoorT10
import Derived.Deep.RegionHeld3
namespace Go.Proofs.YtmkpbfghnkmcgaaDoor
open Go.RowKit

theorem decode_bytes2 (bs : List Int) (hb : ∀ b ∈ bs, isByte b) : ∀ b ∈ (decode bs).2, isByte b := by
  fun_induction decode bs with
  | case1 bs h => simp
  | case2 bs h1 h2 => exact hb
  | case3 bs h1 h2 h3 r ih => exact ih fun b h => hb b (List.mem_of_mem_drop h)
theorem chunkR_bytes {cs ds : List Int} (hc : ∀ b ∈ cs, isByte b) (hd : ∀ b ∈ ds, isByte b) : ∀ b ∈ chunkR cs ds, isByte b := by
  unfold chunkR
  split
  · exact decode_bytes2 _ fun b h => (List.mem_append.1 h).elim (hc b) (hd b)
  · simp
theorem chunk_len (cs ds : List Int) : (chunkT cs ds).length ≤ cs.length + ds.length ∧ (chunkR cs ds).length ≤ cs.length + ds.length := by
  have := decode_len (cs ++ ds)
  rw [List.length_append] at this
  unfold chunkT chunkR
  split
  · exact this
  · simp
theorem cut_math {cs ds : List Int} (k : Nat) (hc : ∀ b ∈ cs, isByte b) (hd : ∀ b ∈ ds, isByte b) (h : chunkC cs ds = 0) :
    chunkC cs (ds.take k) = 0 ∧ chunkC (chunkR cs (ds.take k)) (ds.drop k) = 0 ∧ chunkT cs (ds.take k) ++ chunkT (chunkR cs (ds.take k)) (ds.drop k) = chunkT cs ds ∧
      chunkR (chunkR cs (ds.take k)) (ds.drop k) = chunkR cs ds ∧ carryF (chunkR cs ds) = 0 := by
  have hf : carryF cs = 0 := by
    unfold chunkC at h
    split at h
    · assumption
    · omega
  have hl : ¬ 600 < ds.length := by
    unfold chunkC at h
    rw [if_pos hf] at h
    split at h
    · omega
    · assumption
  have hby : ∀ b ∈ cs ++ ds.take k, isByte b := fun b h => (List.mem_append.1 h).elim (hc b) fun h => hd b (List.mem_of_mem_take h)
  have hby2 : ∀ b ∈ cs ++ ds, isByte b := fun b h => (List.mem_append.1 h).elim (hc b) (hd b)
  have h1 : chunkC cs (ds.take k) = 0 := by
    unfold chunkC
    rw [if_pos hf, if_neg (by rw [List.length_take]; omega)]
  have r1 : chunkR cs (ds.take k) = (decode (cs ++ ds.take k)).2 := by unfold chunkR; rw [if_pos h1]
  have hf2 : carryF (chunkR cs (ds.take k)) = 0 := by rw [r1]; exact decode_rest _ hby
  have h2 : chunkC (chunkR cs (ds.take k)) (ds.drop k) = 0 := by
    unfold chunkC
    rw [if_pos hf2, if_neg (by rw [List.length_drop]; omega)]
  have app := decode_append (cs ++ ds.take k) (ds.drop k)
  rw [List.append_assoc, List.take_append_drop] at app
  refine ⟨h1, h2, ?_, ?_, ?_⟩
  · unfold chunkT; rw [if_pos h1, if_pos h2, if_pos h, app, r1]
  · rw [r1]; unfold chunkR; rw [if_pos (by rw [← r1]; exact h2), if_pos h, app]
  · unfold chunkR; rw [if_pos h]; exact decode_rest _ hby2
theorem enc_back {ts : List Int} (h : (encode ts).1 = 0) : decode (encode ts).2 = (ts, []) := by
  unfold encode at h ⊢
  split at h
  · cases h
  · rename_i hl
    rw [if_neg hl]
    split at h
    · rename_i ha
      rw [if_pos ha]
      exact decode_encs ts (List.all_eq_true.1 ha)
    · cases h
theorem enc_all {ts : List Int} (h : (encode ts).1 = 0) (hl : (encode ts).2.length ≤ 600) : allL (encode ts).2 = ts := by
  unfold allL allT
  rw [if_neg (by omega), enc_back h]
  simp
theorem enc1_bytes (c : Int) (h : chrB c = true) : ∀ b ∈ enc1 c, isByte b := by
  have := chrB_range h
  unfold enc1 isByte
  intro b hb
  repeat' split at hb
  all_goals simp only [List.mem_cons, List.not_mem_nil, or_false] at hb
  all_goals omega
theorem encode_bytes (ts : List Int) : ∀ b ∈ (encode ts).2, isByte b := by
  unfold encode
  split
  · simp
  · split
    · rename_i ha
      intro b hb
      obtain ⟨c, hc, hb⟩ := List.mem_flatMap.1 hb
      exact enc1_bytes c (List.all_eq_true.1 ha c hc) b hb
    · simp
/-- where a slice's rest lies -/
def loA (A : Option Addr) (c k : Nat) : Option Addr := if c = k then A else A.map (·.add k)
theorem loA_fold (A : Option Addr) (c k : Nat) : (if c = k then A else Option.map (fun x => x.add k) A) = loA A c k := rfl
theorem Rd.lo {w : World} {B : Nat} {A : Option Addr} {xs : List Value} (h : Rd w B A xs) (c k : Nat) (hc : xs.length ≤ c) : Rd w B (loA A c k) (xs.drop k) := by
  intro j u hu
  rw [List.getElem?_drop] at hu
  have hlt : k + j < xs.length := (List.getElem?_eq_some_iff.1 hu).1
  obtain ⟨b, off, e1, e2, e3⟩ := h _ u hu
  subst e1
  unfold loA
  rw [if_neg (by omega), Option.map_some]
  unfold Addr.add
  split
  · subst_vars; exact ⟨b, off, rfl, e2, by simpa using e3⟩
  · exact ⟨b, off + k, rfl, e2, by rw [Nat.add_assoc]; exact e3⟩
theorem Sees.rd {w : World} {B : Nat} {kd : IntKind} {A : Option Addr} {n c : Nat} {zs : List Int} (h : Sees w B kd (.slice A n c) zs) : Rd w B A (nums kd zs) := by
  obtain ⟨A', c', e, r⟩ := h
  injection e with e1 e2 e3
  subst e1
  exact r
theorem Sees.hi {w : World} {B : Nat} {kd : IntKind} {A : Option Addr} {n c : Nat} {zs : List Int} (h : Sees w B kd (.slice A n c) zs) (k : Nat) (hk : k ≤ zs.length) : Sees w B kd (.slice A k c) (zs.take k) :=
  ⟨A, c, by rw [List.length_take, Nat.min_eq_left hk], by have := h.rd.take k; simpa [nums, List.map_take] using this⟩
theorem Sees.lo {w : World} {B : Nat} {kd : IntKind} {A : Option Addr} {n c : Nat} {zs : List Int} (h : Sees w B kd (.slice A n c) zs) (k : Nat) (hn : n = zs.length) (hc : zs.length ≤ c) : Sees w B kd (.slice (loA A c k) (n - k) (c - k)) (zs.drop k) :=
  ⟨loA A c k, c - k, by rw [List.length_drop, hn], by have := h.rd.lo c k (by rw [nums_length]; exact hc); simpa [nums, List.map_drop] using this⟩
theorem Blk.far2 {w : World} {g : Nat} {t : TypeId} {cs : Array Value} (h : Blk w g t cs) (p : Addr) (u : Value) (hp : p.block ≠ g) : Blk (w.setCell p u) g t cs :=
  (heap_setCell_other w p g u (by omega)).trans h
theorem own_empty (w : World) (t : TypeId) : (w.alloc (.cells #[] t)).ownsRow w.heap.size t 1 (.slice (some ⟨w.heap.size, 0, none⟩) 0 0) 0 [] :=
  World.ownsRow_lit (base := w.heap.size) (e := t) (size := 1) w #[] 0 (Nat.le_refl _) (by unfold maxLen; omega) rfl
theorem own_app_sees {w : World} {B : Nat} {t : TypeId} {kd : IntKind} {A : Option Addr} {c : Nat} {a b zs : List Int} (h : w.ownsRow B t 1 (.slice A (a.length + b.length) c) (a.length + b.length) (nums kd a ++ nums kd b)) (e : a ++ b = zs) :
    Sees w w.heap.size kd (.slice A (a.length + b.length) c) zs := by
  subst e
  refine ⟨A, c, by rw [List.length_append], ?_⟩
  have := Rd.of h
  rwa [← nums_app] at this
theorem run_lo (A : Option Addr) (n c k : Nat) (h1 : k ≤ n) (w : World) : (Instr.sliceAt 22 (.slice A n c) (some (.int .i64 (k : Int))) none none).run Tryd.prog w = .ok (.slice (loA A c k) (n - k) (c - k)) w := by
  have f0 : (0 : Int) ≤ k ∧ (k : Int) ≤ n := by omega
  simp [Instr.sliceAt, Instr.slice, Instr.sliceBounds, Instr.sliceBound, loA, go_sem, f0]
  intro; omega
theorem run_hi (A : Option Addr) (n c k : Nat) (h1 : k ≤ c) (w : World) : (Instr.sliceAt 22 (.slice A n c) none (some (.int .i64 (k : Int))) none).run Tryd.prog w = .ok (.slice A k c) w := by
  have f0 : (0 : Int) ≤ k ∧ (k : Int) ≤ c := by omega
  have e : ∀ a : Addr, a.add 0 = a := fun a => by simp [Addr.add]
  simp [Instr.sliceAt, Instr.slice, Instr.sliceBounds, Instr.sliceBound, go_sem, f0, e]
  intro; omega

theorem step_app {P : Program} {w : World} {ops : Array Oper} {o : Oper} {a : Act} {K : Act → World → Prop} {Q : Exit → Act → World → Prop} {E : Prop} (hw : Region.wanted o (yielded ops a.tmps) = true) (s x : Operand) (t : TypeId)
    (ho : o.op = .call { callee := .builtin .append, args := #[s, x], argTypes := #[t, t] })
    (base : Nat) {e : TypeId} {i : TypeInfo} {z : Value} {size bytes : Nat} (ht : P.underlying t = some (.slice e)) (hi : P.info? e = some i) (hz : i.zero = some z)
    (hsize : i.size = size) (hby : i.bytes = bytes) (hzs : z.cells.size = size) (hsz : 0 < size)
    {v : Value} {n : Nat} {xs : List Value} (hs : a.eval s = v) (hown : w.ownsRow base e size v n xs)
    {B : Nat} {A : Option Addr} {m c : Nat} {news : List Value} (hx : a.eval x = .slice A m c) (hr : Rd w B A news) (hl : news.length = m * size) (h1 : ∀ u ∈ news, u.oneCell' = true)
    (hn : (n + m) * bytes ≤ 140737488355328) (hm : n + m ≤ 140737488355328) (hbase : base ≤ w.heap.size)
    (h : ∀ v' w', w'.ownsRow base e size v' (n + m) (xs ++ news) → w.grownBy w' v.ownBlock → (v'.ownBlock = v.ownBlock ∨ v'.ownBlock = some w.heap.size) → K (a.put o.dst v') w') :
    if Region.wanted o (yielded ops a.tmps) = true then Oper.wp P o a w K Q else E := by
  have key : ∃ v' w', (Builtin.append_ #[t, t] o.type #[v, .slice A m c]).run P w = .ok v' w' ∧ w'.ownsRow base e size v' (n + m) (xs ++ news) ∧ w.grownBy w' v.ownBlock ∧ (v'.ownBlock = v.ownBlock ∨ v'.ownBlock = some w.heap.size) := by
    match A, hr with
    | some ad, hr =>
      obtain ⟨v', w', h2, h3, h4, _, h5⟩ := run_append_own_at (P := P) w base t o.type e i z size bytes ht hi hz hsize hby hzs hsz v n xs hown ad m c news hl hr.cells h1 (by unfold maxLen; omega) hn hbase
      exact ⟨v', w', h2, h3, h4, h5⟩
    | none, hr =>
      have hnews : news = [] := by
        cases news with
        | nil => rfl
        | cons y ys =>
          obtain ⟨_, _, e', _⟩ := hr 0 y rfl
          cases e'
      subst hnews
      obtain rfl : m = 0 := by
        rcases Nat.eq_zero_or_pos m with h0 | h0
        · exact h0
        · have := Nat.mul_pos h0 hsz
          simp at hl
          omega
      exact ⟨v, w, run_app_none w base t o.type e i size ht hi v n xs hown c, by simpa using hown, World.grownBy.refl w _, .inl rfl⟩
  obtain ⟨v', w', hrun, h2, h3, h4⟩ := key
  rw [if_pos hw]
  unfold Oper.wp execOp
  simp only [ho, resolve, invoke, builtin, Sem.run_bind, Sem.run_pure, Result.andThen_ok, List.map_toArray, List.map_cons, List.map_nil, hs, hx, hrun]
  exact h v' w' h2 h3 h4
end Go.Proofs.YtmkpbfghnkmcgaaDoor
