/- Chapter 4: the model's levels that are told, whole. -/
import Derived.Test.YthhbikilighemaaL7
namespace Go.Proofs.Ythhbikilighemaa
open Go.RowKit Go.Maps

theorem set_last (L : List Int) (k : Nat) (x y : Int) (h : L.length = k) : (L ++ [x]).set k y = L ++ [y] := by
  subst h
  rw [List.set_append, if_neg (by omega), Nat.sub_self]; rfl
theorem turnC_last (C : List Int) (k : Nat) (q : Int) (t : Tier) (h : C.length = k) : turnC (C ++ [q]) k t = C ++ [if t.way = -1 then q else t.way] := by
  unfold turnC
  split
  · rfl
  · exact set_last C k q _ h
theorem eat_emb {ks : List Int} {b : Int} {k : Nat} (h : isEmb (nth ks k)) : eat ks b (k + 1) = (embS (leftK (nth ks k)) (wayK (nth ks k)) (eat ks b k).1, (eat ks b k).2.1 ++ [-1], (eat ks b k).2.2 ++ [nth ks k]) := by
  have hg : gone (nth ks k) = true := by unfold gone; unfold isEmb at h; rw [decide_eq_true]; omega
  rw [eat_succ]; unfold stepS lvS clS
  rw [if_pos h, hg]; rfl
theorem eat_iso {ks : List Int} {b : Int} {k : Nat} (h : isOp (nth ks k)) : eat ks b (k + 1) = (isoS (leftOf ks k) (eat ks b k).1, (eat ks b k).2.1 ++ [(topT (eat ks b k).1.stk).lev], (eat ks b k).2.2 ++ [if (topT (eat ks b k).1.stk).way = -1 then nth ks k else (topT (eat ks b k).1.stk).way]) := by
  have hg : gone (nth ks k) = false := by unfold gone; unfold isOp at h; rw [decide_eq_false]; omega
  have he : ¬ isEmb (nth ks k) := by unfold isOp at h; unfold isEmb; omega
  have h22 : ¬ nth ks k = 22 := by unfold isOp at h; omega
  rw [eat_succ]; unfold stepS lvS clS atS
  rw [if_neg he, if_pos h, hg, if_neg h22]; rfl
theorem eat_end {ks : List Int} {b : Int} {k : Nat} (h : nth ks k = 22) : eat ks b (k + 1) = (endS (eat ks b k).1, (eat ks b k).2.1 ++ [(topT (endS (eat ks b k).1).stk).lev], (eat ks b k).2.2 ++ [if (topT (endS (eat ks b k).1).stk).way = -1 then nth ks k else (topT (endS (eat ks b k).1).stk).way]) := by
  rw [eat_succ, h]; rfl
theorem eat_pop {ks : List Int} {b : Int} {k : Nat} (h : nth ks k = 16) : eat ks b (k + 1) = (popS (eat ks b k).1, (eat ks b k).2.1 ++ [-1], (eat ks b k).2.2 ++ [nth ks k]) := by rw [eat_succ, h]; rfl
theorem eat_bn {ks : List Int} {b : Int} {k : Nat} (h : nth ks k = 9) : eat ks b (k + 1) = ((eat ks b k).1, (eat ks b k).2.1 ++ [-1], (eat ks b k).2.2 ++ [nth ks k]) := by rw [eat_succ, h]; rfl
theorem eat_any {ks : List Int} {b : Int} {k : Nat} (h1 : ¬ isEmb (nth ks k)) (h2 : ¬ isOp (nth ks k)) (h3 : ¬ nth ks k = 22) (h4 : ¬ nth ks k = 16) (h5 : ¬ nth ks k = 9) :
    eat ks b (k + 1) = ((eat ks b k).1, (eat ks b k).2.1 ++ [(topT (eat ks b k).1.stk).lev], (eat ks b k).2.2 ++ [if (topT (eat ks b k).1.stk).way = -1 then nth ks k else (topT (eat ks b k).1.stk).way]) := by
  have hg : gone (nth ks k) = false := by unfold gone; unfold isEmb at h1; rw [decide_eq_false]; omega
  rw [eat_succ]; unfold stepS lvS clS atS
  rw [if_neg h1, if_neg h2, if_neg h3, if_neg h4, hg, if_neg h3]; rfl
/-- the model's state at this place -/
def AtS (w : World) (S : Nat → Prop) (g : Nat) (ks : List Int) (b : Int) (k : Nat) (x : Tell × List Int × List Int) (v1 v2 v3 : Value) : Prop := x = eat ks b k ∧ MSt w S g x.1 x.2.1 x.2.2 v1 v2 v3
end Go.Proofs.Ythhbikilighemaa
