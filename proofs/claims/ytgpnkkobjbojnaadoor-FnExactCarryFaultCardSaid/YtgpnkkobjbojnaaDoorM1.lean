/- The plain mathematics of chapter 1: what bytes stand for. No program is named here. -/
import Derived.Test.YtgpnkkobjbojnaaDoorB0
import Derived.Lib.DecodeN
namespace Go.Proofs.YtgpnkkobjbojnaaDoor

/-! what bytes are -/
def size0 (b : Int) : Int := if b < 128 then 1 else if 194 ≤ b ∧ b ≤ 223 then 2 else if 224 ≤ b ∧ b ≤ 239 then 3 else if 240 ≤ b ∧ b ≤ 244 then 4 else 0
def lo2 (b : Int) : Int := if b = 224 then 160 else if b = 240 then 144 else 128
def hi2 (b : Int) : Int := if b = 237 then 159 else if b = 244 then 143 else 191
def snd (f b : Int) : Bool := decide (lo2 f ≤ b) && decide (b ≤ hi2 f)
def cont (b : Int) : Bool := decide (128 ≤ b) && decide (b ≤ 191)
/-- bytes (at least one) are a beginning -/
def begins (bs : List Int) : Bool :=
  decide ((bs.length : Int) < size0 (nth bs 0)) && (decide (bs.length < 2) || snd (nth bs 0) (nth bs 1)) && (decide (bs.length < 3) || cont (nth bs 2))


theorem tab_nat : ∀ b : Nat, b < 256 → (Lib.firstT b : Int) % 8 = (if (b : Int) < 128 then 0 else if size0 b = 0 then 1 else size0 b) ∧ Lib.firstT b / 16 < 16 ∧ Lib.firstT b ≤ 255 ∧
    (2 ≤ size0 b → ((Lib.accLo (Lib.firstT b / 16) : Nat) : Int) = lo2 b ∧ ((Lib.accHi (Lib.firstT b / 16) : Nat) : Int) = hi2 b) := by
  decide +kernel

theorem size0_cases (b : Int) : size0 b = 0 ∨ size0 b = 1 ∨ size0 b = 2 ∨ size0 b = 3 ∨ size0 b = 4 := by
  unfold size0
  repeat' split
  all_goals simp

/-- the k-th byte goes on -/
def okAt (bs : List Int) (k : Nat) : Bool := if k = 1 then snd (nth bs 0) (nth bs 1) else cont (nth bs k)
/-- how many bytes at the front are a beginning or a character -/
def front (bs : List Int) : Nat :=
  if 1 < size0 (nth bs 0) ∧ 1 < bs.length ∧ okAt bs 1 = true then
    if 2 < size0 (nth bs 0) ∧ 2 < bs.length ∧ okAt bs 2 = true then
      if 3 < size0 (nth bs 0) ∧ 3 < bs.length ∧ okAt bs 3 = true then 4 else 3
    else 2
  else 1

theorem front_lo (bs : List Int) : 1 ≤ front bs := by
  unfold front
  repeat' split
  all_goals omega
theorem front_hi (bs : List Int) : front bs ≤ 4 := by
  unfold front
  repeat' split
  all_goals omega
theorem front_len (bs : List Int) (h : 0 < bs.length) : front bs ≤ bs.length := by
  unfold front
  repeat' split
  all_goals omega
theorem front_up (bs : List Int) (k : Nat) (h1 : 1 ≤ k) (hk : k ≤ front bs) (hs : (k : Int) < size0 (nth bs 0)) (hl : k < bs.length) (ho : okAt bs k = true) : k + 1 ≤ front bs := by
  have hs4 := size0_cases (nth bs 0)
  have h4 := front_hi bs
  rcases (show k = 1 ∨ k = 2 ∨ k = 3 by omega) with rfl | rfl | rfl
  · unfold front
    rw [if_pos ⟨by omega, hl, ho⟩]
    repeat' split
    all_goals omega
  · unfold front at hk ⊢
    split at hk
    · rename_i h
      rw [if_pos h, if_pos ⟨by omega, hl, ho⟩]
      repeat' split
      all_goals omega
    · omega
  · unfold front at hk ⊢
    split at hk
    · rename_i h
      rw [if_pos h]
      split at hk
      · rename_i h'
        rw [if_pos h', if_pos ⟨by omega, hl, ho⟩]
        omega
      · omega
    · omega
theorem front_eq (bs : List Int) (k : Nat) (h1 : 1 ≤ k) (hk : k ≤ front bs) (h : ¬ ((k : Int) < size0 (nth bs 0) ∧ k < bs.length ∧ okAt bs k = true)) : front bs = k := by
  have h4 := front_hi bs
  unfold front at *
  rcases (show k = 1 ∨ k = 2 ∨ k = 3 ∨ k = 4 by omega) with rfl | rfl | rfl | rfl
  · rw [if_neg (by simpa using h)]
  · split at hk
    · rename_i g
      rw [if_pos g, if_neg (by simpa using h)]
    · omega
  · split at hk
    · rename_i g
      rw [if_pos g]
      split at hk
      · rename_i g'
        rw [if_pos g', if_neg (by simpa using h)]
      · omega
    · omega
  · repeat' split at hk
    all_goals first | omega | (rename_i g g' g''; rw [if_pos g, if_pos g', if_pos g''])

theorem begins_eq (bs : List Int) (h0 : 0 < bs.length) : begins bs = (decide (bs.length ≤ 3) && decide (front bs = bs.length) && decide ((bs.length : Int) < size0 (nth bs 0))) := by
  have hs4 := size0_cases (nth bs 0)
  have hl := front_len bs h0
  unfold begins
  by_cases hs : (bs.length : Int) < size0 (nth bs 0)
  · have h3 : bs.length ≤ 3 := by omega
    simp only [hs, h3, decide_true, Bool.true_and, Bool.and_true]
    rcases (show bs.length = 1 ∨ bs.length = 2 ∨ bs.length = 3 by omega) with h | h | h
    · have e : front bs = 1 := by unfold front; rw [if_neg (by omega)]
      simp [h, e]
    · by_cases g : snd (nth bs 0) (nth bs 1) = true
      · have e : front bs = 2 := by unfold front; rw [if_pos ⟨by omega, by omega, by simp [okAt, g]⟩, if_neg (by omega)]
        simp [h, e, g]
      · have e : front bs = 1 := by unfold front; rw [if_neg (by simp [okAt, g])]
        simp [h, e, g]
    · by_cases g : snd (nth bs 0) (nth bs 1) = true
      · by_cases g' : cont (nth bs 2) = true
        · have e : front bs = 3 := by unfold front; rw [if_pos ⟨by omega, by omega, by simp [okAt, g]⟩, if_pos ⟨by omega, by omega, by simp [okAt, g']⟩, if_neg (by omega)]
          simp [h, e, g, g']
        · have e : front bs = 2 := by unfold front; rw [if_pos ⟨by omega, by omega, by simp [okAt, g]⟩, if_neg (by simp [okAt, g'])]
          simp [h, e, g, g']
      · have e : front bs = 1 := by unfold front; rw [if_neg (by simp [okAt, g])]
        simp [h, e, g]
  · simp [hs]
end Go.Proofs.YtgpnkkobjbojnaaDoor
