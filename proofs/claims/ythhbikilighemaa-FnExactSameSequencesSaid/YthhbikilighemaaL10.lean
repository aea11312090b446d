/- Chapter 4: the program's state in memory. No program is named here. -/
import Derived.Test.YthhbikilighemaaL2
namespace Go.Proofs.Ythhbikilighemaa
open Go.RowKit Go.Maps

/-- a row over a store into a block that it does not lie in -/
theorem Row.setB {w : World} {S : Nat → Prop} {g : Nat} {t : TypeId} {size : Nat} {v : Value} {n : Nat} {xs : List Value} (h : Row w S g t size v n xs) (B i : Nat) (u : Value) (hB : ∀ b, v.ownBlock = some b → b ≠ B) : Row (w.setCell ⟨B, i, none⟩ u) S g t size v n xs := by
  refine ⟨⟨h.1.1, ?_⟩, h.2⟩
  rcases h.1.2 with hn | ⟨b, cap, cur, rfl, hb, hg, rest⟩
  · exact .inl hn
  · exact .inr ⟨b, cap, cur, rfl, hb, by rw [heap_setCell_other w ⟨B, i, none⟩ b u (hB b rfl)]; exact hg, rest⟩
theorem Blk.setB {w : World} {g : Nat} {t : TypeId} {cs : Array Value} (h : Blk w g t cs) (B i : Nat) (u : Value) (hB : g ≠ B) : Blk (w.setCell ⟨B, i, none⟩ u) g t cs := (heap_setCell_other w ⟨B, i, none⟩ g u hB).trans h

/-- the program's state: the teller's block, the stack's, three owned rows -/
structure ISt (w : World) (S : Nat → Prop) (g gs : Nat) (T TS tE tI : TypeId) (s : Tell) (L C : List Int) (vk vm v1 v2 v3 : Value) : Prop where
  blk : Blk w g T #[vk, vm, .pointer (some ⟨gs, 0, none⟩), .int .i64 s.li, .int .i64 s.le, .int .i64 s.is, .int .i64 0, v2, v3]
  sbk : Blk w gs TS #[v1]
  ing : S g
  ins : S gs
  ne : gs ≠ g
  r1 : Row w S g tE 3 v1 s.stk.length (tcells s.stk)
  r2 : Row w S g tI 1 v2 L.length (nums .i64 L)
  r3 : Row w S g tI 1 v3 C.length (nums .i64 C)
  x1 : ∀ b, v1.ownBlock = some b → b ≠ gs
  x2 : ∀ b, v2.ownBlock = some b → b ≠ gs
  x3 : ∀ b, v3.ownBlock = some b → b ≠ gs
  d12 : Apart v1 v2
  d13 : Apart v1 v3
  d23 : Apart v2 v3
section
variable {w w' : World} {S : Nat → Prop} {g gs : Nat} {T TS tE tI : TypeId} {s : Tell} {L C : List Int} {vk vm v1 v2 v3 : Value}
theorem ISt.below (h : ISt w S g gs T TS tE tI s L C vk vm v1 v2 v3) (hb : Below w.heap.size w w') : ISt w' S g gs T TS tE tI s L C vk vm v1 v2 v3 :=
  ⟨h.blk.below hb h.blk.lt, h.sbk.below hb h.sbk.lt, h.ing, h.ins, h.ne, h.r1.below hb, h.r2.below hb, h.r3.below hb, h.x1, h.x2, h.x3, h.d12, h.d13, h.d23⟩
theorem ISt.alloc (h : ISt w S g gs T TS tE tI s L C vk vm v1 v2 v3) (o : Obj) : ISt (w.alloc o) S g gs T TS tE tI s L C vk vm v1 v2 v3 := h.below ((Below.refl _ _).alloc (Nat.le_refl _) o)
theorem Row.keepB {n : Nat} {size : Nat} {t : TypeId} {v : Value} {xs : List Value} (h : Row w S g t size v n xs) (hk : ∀ b, v.ownBlock = some b → w'.heap[b]? = w.heap[b]?) : Row w' S g t size v n xs := by
  refine ⟨⟨h.1.1, ?_⟩, h.2⟩
  rcases h.1.2 with hn | ⟨b, cap, cur, rfl, hb, hg, rest⟩
  · exact .inl hn
  · exact .inr ⟨b, cap, cur, rfl, hb, by rw [hk b rfl]; exact hg, rest⟩
theorem ISt.keep (h : ISt w S g gs T TS tE tI s L C vk vm v1 v2 v3) (N : Nat) (hN : w.heap.size = N) (hk : ∀ k, k < N → w'.heap[k]? = w.heap[k]?) : ISt w' S g gs T TS tE tI s L C vk vm v1 v2 v3 :=
  ⟨(hk g (hN ▸ h.blk.lt)).trans h.blk, (hk gs (hN ▸ h.sbk.lt)).trans h.sbk, h.ing, h.ins, h.ne, h.r1.keepB fun b hb => hk b (hN ▸ h.r1.lt b hb), h.r2.keepB fun b hb => hk b (hN ▸ h.r2.lt b hb), h.r3.keepB fun b hb => hk b (hN ▸ h.r3.lt b hb), h.x1, h.x2, h.x3, h.d12, h.d13, h.d23⟩
theorem ISt.setB (h : ISt w S g gs T TS tE tI s L C vk vm v1 v2 v3) (X i : Nat) (u : Value) (hg : g ≠ X) (hs : gs ≠ X) (h1 : ∀ b, v1.ownBlock = some b → b ≠ X) (h2 : ∀ b, v2.ownBlock = some b → b ≠ X) (h3 : ∀ b, v3.ownBlock = some b → b ≠ X) :
    ISt (w.setCell ⟨X, i, none⟩ u) S g gs T TS tE tI s L C vk vm v1 v2 v3 :=
  ⟨h.blk.setB X _ _ hg, h.sbk.setB X _ _ hs, h.ing, h.ins, h.ne, h.r1.setB X _ _ h1, h.r2.setB X _ _ h2, h.r3.setB X _ _ h3, h.x1, h.x2, h.x3, h.d12, h.d13, h.d23⟩
theorem ISt.num (h : ISt w S g gs T TS tE tI s L C vk vm v1 v2 v3) (i : Nat) (z : Int) (s' : Tell) (hs : s'.stk = s.stk)
    (hc : #[vk, vm, .pointer (some ⟨gs, 0, none⟩), .int .i64 s'.li, .int .i64 s'.le, .int .i64 s'.is, .int .i64 0, v2, v3] = #[vk, vm, .pointer (some ⟨gs, 0, none⟩), .int .i64 s.li, .int .i64 s.le, .int .i64 s.is, .int .i64 0, v2, v3].setIfInBounds i (.int .i64 z)) :
    ISt (w.setCell ⟨g, i, none⟩ (.int .i64 z)) S g gs T TS tE tI s' L C vk vm v1 v2 v3 := by
  refine ⟨?_, h.sbk.setB g _ _ h.ne, h.ing, h.ins, h.ne, ?_, h.r2.set _ _, h.r3.set _ _, h.x1, h.x2, h.x3, h.d12, h.d13, h.d23⟩
  · rw [hc]; exact h.blk.set i _
  · rw [hs]; exact h.r1.set _ _
theorem ISt.push (h : ISt w S g gs T TS tE tI s L C vk vm v1 v2 v3) (hO : Open S w) {u : Value} (e : Tier) (ho : w'.ownsRow 0 tE 3 u (s.stk.length + 1) (tcells s.stk ++ [.int .i64 e.lev, .int .i64 e.way, .bool e.iso])) (hg : w.grownBy w' v1.ownBlock)
    (ha : u.ownBlock = v1.ownBlock ∨ u.ownBlock = some w.heap.size) : ISt (w'.setCell ⟨gs, 0, none⟩ u) S g gs T TS tE tI ⟨s.stk ++ [e], s.li, s.le, s.is⟩ L C vk vm u v2 v3 := by
  have hk : Blk w' g T #[vk, vm, .pointer (some ⟨gs, 0, none⟩), .int .i64 s.li, .int .i64 s.le, .int .i64 s.is, .int .i64 0, v2, v3] := (hg.block g h.blk.lt (fun e => (h.r1.2 g e.symm).2 rfl)).trans h.blk
  have hsk : Blk w' gs TS #[v1] := (hg.block gs h.sbk.lt (fun e => (h.x1 gs e.symm) rfl)).trans h.sbk
  have r1 : Row w' S g tE 3 u (s.stk ++ [e]).length (tcells (s.stk ++ [e])) := by
    rw [tcells_app, tcells_one, List.length_append]; exact h.r1.after hO h.blk.lt ho ha
  have x1 : ∀ b, u.ownBlock = some b → b ≠ gs := by
    intro b hb
    rcases ha with e | e
    · exact h.x1 b (by rw [← e]; exact hb)
    · rw [hb] at e
      injection e with e
      have := h.sbk.lt
      omega
  exact ⟨hk.setB gs _ _ h.ne.symm, hsk.set 0 u, h.ing, h.ins, h.ne, r1.setB gs _ _ x1, (h.r2.grown hg h.d12.symm).setB gs _ _ h.x2, (h.r3.grown hg h.d13.symm).setB gs _ _ h.x3, x1, h.x2, h.x3,
    h.d12.after h.r2.lt ha, h.d13.after h.r3.lt ha, h.d23⟩
theorem ISt.pop (h : ISt w S g gs T TS tE tI s L C vk vm v1 v2 v3) {m b c : Nat} (hm : s.stk.length = m + 1) (hv : v1 = .slice (some ⟨b, 0, none⟩) (m + 1) c) :
    ISt (w.setCell ⟨gs, 0, none⟩ (.slice (some ⟨b, 0, none⟩) m c)) S g gs T TS tE tI ⟨s.stk.dropLast, s.li, s.le, s.is⟩ L C vk vm (.slice (some ⟨b, 0, none⟩) m c) v2 v3 := by
  subst hv
  have r := h.r1
  rw [hm] at r
  have r' := r.pop hm
  have hl : s.stk.dropLast.length = m := by rw [List.length_dropLast, hm]; rfl
  refine ⟨h.blk.setB gs _ _ h.ne.symm, h.sbk.set 0 _, h.ing, h.ins, h.ne, ?_, h.r2.setB gs _ _ h.x2, h.r3.setB gs _ _ h.x3, h.x1, h.x2, h.x3, h.d12.block rfl, h.d13.block rfl, h.d23⟩
  show Row _ S g tE 3 _ s.stk.dropLast.length _
  rw [hl]; exact r'.setB gs _ _ h.x1
theorem ISt.putL (h : ISt w S g gs T TS tE tI s L C vk vm v1 v2 v3) {j : Nat} {z : Int} {b : Nat} (hb : v2.ownBlock = some b) (ho : w'.ownsRow 0 tI 1 v2 L.length ((nums .i64 L).set j (.int .i64 z))) (hg : w.grownBy w' (some b)) :
    ISt w' S g gs T TS tE tI s (L.set j z) C vk vm v1 v2 v3 := by
  refine ⟨(hg.block g h.blk.lt (fun e => (h.r2.2 g (hb.trans e.symm)).2 rfl)).trans h.blk, (hg.block gs h.sbk.lt (fun e => (h.x2 gs (hb.trans e.symm)) rfl)).trans h.sbk, h.ing, h.ins, h.ne,
    h.r1.grown hg (hb ▸ h.d12), ?_, h.r3.grown hg (hb ▸ h.d23.symm), h.x1, h.x2, h.x3, h.d12, h.d13, h.d23⟩
  exact ⟨by rw [List.length_set, ← nums_set]; exact ho, h.r2.2⟩
theorem ISt.putC (h : ISt w S g gs T TS tE tI s L C vk vm v1 v2 v3) {j : Nat} {z : Int} {b : Nat} (hb : v3.ownBlock = some b) (ho : w'.ownsRow 0 tI 1 v3 C.length ((nums .i64 C).set j (.int .i64 z))) (hg : w.grownBy w' (some b)) :
    ISt w' S g gs T TS tE tI s L (C.set j z) vk vm v1 v2 v3 := by
  refine ⟨(hg.block g h.blk.lt (fun e => (h.r3.2 g (hb.trans e.symm)).2 rfl)).trans h.blk, (hg.block gs h.sbk.lt (fun e => (h.x3 gs (hb.trans e.symm)) rfl)).trans h.sbk, h.ing, h.ins, h.ne,
    h.r1.grown hg (hb ▸ h.d13), h.r2.grown hg (hb ▸ h.d23), ?_, h.x1, h.x2, h.x3, h.d12, h.d13, h.d23⟩
  exact ⟨by rw [List.length_set, ← nums_set]; exact ho, h.r3.2⟩
end
end Go.Proofs.Ythhbikilighemaa
