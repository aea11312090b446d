/- The draws of chapter 3. -/
import Derived.Test.YtmcmfklkljehiaaN1
import Derived.Test.YtmcmfklkljehiaaH3
namespace Go.Proofs.Ytmcmfklkljehiaa
open Go.RowKit

/-- numbers that a drawn text may hold -/
def Drawn (ts : List Int) : Prop := ∀ t ∈ ts, -1 ≤ t ∧ t ≤ 1114112
theorem Drawn.app {a b : List Int} (h : Drawn a) (k : Drawn b) : Drawn (a ++ b) := fun t ht => by
  rcases List.mem_append.1 ht with h1 | h1
  · exact h t h1
  · exact k t h1
theorem Drawn.one {x : Int} (h : -1 ≤ x ∧ x ≤ 1114112) : Drawn [x] := fun t ht => by rw [List.mem_singleton.1 ht]; exact h
theorem Drawn.chr {ts : List Int} (h : ∀ t ∈ ts, chrB t = true) : Drawn ts := fun t ht => by have := chrB_range (h t ht); omega
theorem Drawn.wf {ts : List Int} (h : Drawn ts) : ∀ n ∈ ts, (Lit.int .i64 n).wf = true := by
  intro n hn
  have := h n hn
  have h1 : IntKind.i64.min = -9223372036854775808 := rfl
  have h2 : IntKind.i64.max = 9223372036854775807 := rfl
  simp only [Lit.wf, Bool.and_eq_true, decide_eq_true_eq, h1, h2]
  omega
/-- an owned row grown by an append: what the source and the frame keep -/
theorem grown_close {w w1 w2 : World} {g : Nat} {zs ts news : List Int} {at2 : Int} {v v' : Value} {m : Nat} (gl : g < w.heap.size) (r1 : w1.ownsRow w.heap.size 2 1 v ts.length (nums .i64 ts)) (S1 : Src w1 g zs at2) (ou1 : Out g (g + 1) w w1)
    (o2 : w2.ownsRow w.heap.size 2 1 v' (ts.length + m) (nums .i64 ts ++ nums .i64 news)) (hm : news.length = m) (g2 : w1.grownBy w2 v.ownBlock) :
    w2.ownsRow w.heap.size 2 1 v' (ts ++ news).length (nums .i64 (ts ++ news)) ∧ Src w2 g zs at2 ∧ Out g (g + 1) w w2 := by
  have ro := row_out r1 g2
  refine ⟨?_, S1.out ro gl, ou1.later ro (Nat.le_refl _)⟩
  subst hm
  simpa [nums] using o2



end Go.Proofs.Ytmcmfklkljehiaa
