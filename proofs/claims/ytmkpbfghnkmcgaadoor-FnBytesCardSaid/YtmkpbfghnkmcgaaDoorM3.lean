/- The pieces that bytes fall into, by their places. No program is named here. -/
import Derived.Test.YtmkpbfghnkmcgaaDoorM2
namespace Go.Proofs.YtmkpbfghnkmcgaaDoor

/-- a place in the bytes -/
abbrev Pos (zs : List Int) : Type := { k : Nat // k < zs.length }

def posA (zs : List Int) (k : Nat) : List (Pos zs) :=
  if h : k < zs.length then
    have : zs.length - (k + front (zs.drop k)) < zs.length - k := by have := front_lo (zs.drop k); omega
    ⟨k, h⟩ :: posA zs (k + front (zs.drop k))
  else []
termination_by zs.length - k

theorem posA_end (zs : List Int) (k : Nat) (h : zs.length ≤ k) : posA zs k = [] := by unfold posA; rw [dif_neg (by omega)]
theorem posA_step (zs : List Int) (k : Nat) (h : k < zs.length) : posA zs k = ⟨k, h⟩ :: posA zs (k + front (zs.drop k)) := by rw [posA, dif_pos h]
def txt1 (zs : List Int) (p : Pos zs) : List Int := if opn (zs.drop p.1) = true then [] else [(dr (zs.drop p.1)).1]
def car1 (zs : List Int) (c : List Int) (p : Pos zs) : List Int := if opn (zs.drop p.1) = true then (zs.drop p.1).take (front (zs.drop p.1)) else c
def txt (zs : List Int) (ps : List (Pos zs)) : List Int := ps.flatMap (txt1 zs)
def car (zs : List Int) (ps : List (Pos zs)) : List Int := ps.foldl (car1 zs) []

theorem opn_eq (bs : List Int) (h0 : 0 < bs.length) : opn bs = true ↔ (front bs = bs.length ∧ (front bs : Int) < size0 (nth bs 0)) := by
  have hs := size0_cases (nth bs 0)
  unfold opn
  rw [begins_eq bs h0]
  simp only [Bool.and_eq_true, decide_eq_true_eq]
  constructor
  · rintro ⟨_, ⟨_, a⟩, b⟩
    exact ⟨a, by omega⟩
  · rintro ⟨a, b⟩
    exact ⟨by omega, ⟨by omega, a⟩, by omega⟩

theorem pieces_decode (zs : List Int) (k : Nat) (c : List Int) :
    txt zs (posA zs k) = (decode (zs.drop k)).1 ∧ (posA zs k).foldl (car1 zs) c = (if (decode (zs.drop k)).2 = [] then c else (decode (zs.drop k)).2) := by
  by_cases h : k < zs.length
  · have h0 : 0 < (zs.drop k).length := by simp; omega
    have hlo := front_lo (zs.drop k)
    have hl := front_len (zs.drop k) h0
    simp only [List.length_drop] at hl
    rw [posA_step zs k h]
    by_cases ho : opn (zs.drop k) = true
    · obtain ⟨a, b⟩ := (opn_eq _ h0).1 ho
      have a' : front (zs.drop k) = zs.length - k := by rw [a]; simp
      rw [posA_end zs _ (by omega), decode_carry _ h0 a b]
      have hne : zs.drop k ≠ [] := by intro e; rw [e] at h0; simp at h0
      refine ⟨by simp [txt, txt1, ho], ?_⟩
      simp only [List.foldl_cons, List.foldl_nil, car1]
      rw [if_pos ho, if_neg hne, List.take_of_length_le (by simp; omega)]
    · have hno : ¬ (front (zs.drop k) = (zs.drop k).length ∧ (front (zs.drop k) : Int) < size0 (nth (zs.drop k) 0)) := fun e => ho ((opn_eq _ h0).2 e)
      have ih := pieces_decode zs (k + front (zs.drop k)) c
      rw [decode_step _ h0 hno, List.drop_drop]
      have e : (if (front (zs.drop k) : Int) = size0 (nth (zs.drop k) 0) then val ((zs.drop k).take (front (zs.drop k))) else 65533) = (dr (zs.drop k)).1 := by
        unfold dr; split <;> rfl
      refine ⟨?_, ?_⟩
      · rw [e, ← ih.1]
        simp [txt, txt1, ho]
      · simp only [List.foldl_cons]
        rw [show car1 zs c ⟨k, h⟩ = c by unfold car1; rw [if_neg ho]]
        exact ih.2
  · rw [posA_end zs k (by omega), List.drop_of_length_le (by omega), decode_nil]
    simp [txt]
termination_by zs.length - k
decreasing_by all_goals (have := front_lo (zs.drop k); omega)

theorem txt_all (zs : List Int) : txt zs (posA zs 0) = (decode zs).1 := by have := (pieces_decode zs 0 []).1; simpa using this
theorem car_all (zs : List Int) : car zs (posA zs 0) = (decode zs).2 := by
  have := (pieces_decode zs 0 []).2
  unfold car
  rw [this, List.drop_zero]
  split
  · rename_i h; exact h.symm
  · rfl
theorem txt_snoc (zs : List Int) (ps : List (Pos zs)) (p : Pos zs) : txt zs (ps ++ [p]) = txt zs ps ++ txt1 zs p := by simp [txt]
theorem car_snoc (zs : List Int) (ps : List (Pos zs)) (p : Pos zs) : car zs (ps ++ [p]) = car1 zs (car zs ps) p := by simp [car]
theorem txt_len (zs : List Int) (ps : List (Pos zs)) : (txt zs ps).length ≤ ps.length := by
  induction ps with
  | nil => simp [txt]
  | cons p ps ih =>
    have : (txt1 zs p).length ≤ 1 := by unfold txt1; split <;> simp
    simp only [txt, List.flatMap_cons, List.length_append, List.length_cons] at ih ⊢
    omega
end Go.Proofs.YtmkpbfghnkmcgaaDoor
