/- A part of the call's own: wider bounds; a slice that has grown lies apart. No program is named here. -/
import Derived.Test.YtcfnhjpmihngdaaGreatY21
namespace Go.Proofs.YtcfnhjpmihngdaaGreat
open Go.RowKit

section
variable {w w' : World} {u0 u1 u2 : Value} {p : Prt}
theorem OwnPart.moreP {lo hi hi' : Nat} {t : TypeId} (h : OwnPart w lo hi t u0 u1 u2 p) (hh : hi ≤ hi') : OwnPart w lo hi' t u0 u1 u2 p :=
  ⟨h.o0.more (Nat.le_refl _) hh, h.o1.more (Nat.le_refl _) hh, h.o2.more (Nat.le_refl _) hh, h.d01, h.d02, h.d10, h.d12, h.d20, h.d21⟩
theorem OwnPart.outP {lo hi lo' hi' : Nat} {t : TypeId} (h : OwnPart w lo hi t u0 u1 u2 p) (ho : Out lo' hi' w w') (hd : hi ≤ lo' ∨ hi' ≤ lo) : OwnPart w' lo hi t u0 u1 u2 p :=
  ⟨h.o0.out ho hd, h.o1.out ho hd, h.o2.out ho hd, h.d01, h.d02, h.d10, h.d12, h.d20, h.d21⟩
theorem OwnPart.wide {lo lo' hi : Nat} {t : TypeId} (h : OwnPart w lo hi t u0 u1 u2 p) (hh : lo' ≤ lo) : OwnPart w lo' hi t u0 u1 u2 p :=
  ⟨h.o0.more hh (Nat.le_refl _), h.o1.more hh (Nat.le_refl _), h.o2.more hh (Nat.le_refl _), h.d01, h.d02, h.d10, h.d12, h.d20, h.d21⟩
theorem OwnPart.keepA {lo hi : Nat} {t : TypeId} (h : OwnPart w lo hi t u0 u1 u2 p) (o : Obj) : OwnPart (w.alloc o) lo hi t u0 u1 u2 p := ⟨h.o0.alloc o, h.o1.alloc o, h.o2.alloc o, h.d01, h.d02, h.d10, h.d12, h.d20, h.d21⟩
end
/-- a field grown by an append -/
theorem apart_new {w : World} {v v' u : Value} {t : TypeId} {lo : Nat} {kd : IntKind} {xs : List Int} (a5 : v'.ownBlock = v.ownBlock ∨ v'.ownBlock = some w.heap.size) (hu : Own w lo w.heap.size t kd u xs) (hd : v.ownBlock = none ∨ v.ownBlock ≠ u.ownBlock) : v'.ownBlock = none ∨ v'.ownBlock ≠ u.ownBlock := by
  rcases a5 with e | e
  · rw [e]; exact hd
  · refine .inr fun h => ?_
    rw [e] at h
    have := hu.2 _ h.symm
    omega
end Go.Proofs.YtcfnhjpmihngdaaGreat
