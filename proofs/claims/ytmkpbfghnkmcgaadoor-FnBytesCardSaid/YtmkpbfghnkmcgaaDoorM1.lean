/- The plain mathematics of chapter 1: what bytes stand for. No program is named here. -/
import Derived.Test.YtmkpbfghnkmcgaaDoorB0
import Derived.Lib.DecodeN
namespace Go.Proofs.YtmkpbfghnkmcgaaDoor

/-! what bytes are -/
def size0 (b : Int) : Int := if b < 128 then 1 else if 194 ≤ b ∧ b ≤ 223 then 2 else if 224 ≤ b ∧ b ≤ 239 then 3 else if 240 ≤ b ∧ b ≤ 244 then 4 else 0
def lo2 (b : Int) : Int := if b = 224 then 160 else if b = 240 then 144 else 128
def hi2 (b : Int) : Int := if b = 237 then 159 else if b = 244 then 143 else 191
def snd (f b : Int) : Bool := decide (lo2 f ≤ b) && decide (b ≤ hi2 f)
def cont (b : Int) : Bool := decide (128 ≤ b) && decide (b ≤ 191)
/-- bytes (at least one) are a beginning -/
def begins (bs : List Int) : Bool :=
  decide ((bs.length : Int) < size0 (nth bs 0)) && (decide (bs.length < 2) || snd (nth bs 0) (nth bs 1)) && (decide (bs.length < 3) || cont (nth bs 2))


theorem tab_nat : ∀ b : Nat, b < 256 → (Lib.firstT b : Int) % 8 = (if (b : Int) < 128 then 0 else if size0 b = 0 then 1 else size0 b) ∧ Lib.firstT b / 16 < 16 ∧ Lib.firstT b ≤ 255 ∧
    (2 ≤ size0 b → ((Lib.accLo (Lib.firstT b / 16) : Nat) : Int) = lo2 b ∧ ((Lib.accHi (Lib.firstT b / 16) : Nat) : Int) = hi2 b) := by
  decide +kernel

theorem size0_cases (b : Int) : size0 b = 0 ∨ size0 b = 1 ∨ size0 b = 2 ∨ size0 b = 3 ∨ size0 b = 4 := by
  unfold size0
  repeat' split
  all_goals simp

/-- the k-th byte goes on -/
def okAt (bs : List Int) (k : Nat) : Bool := if k = 1 then snd (nth bs 0) (nth bs 1) else cont (nth bs k)
/-- how many bytes at the front are a beginning or a character -/
def front (bs : List Int) : Nat :=
  if 1 < size0 (nth bs 0) ∧ 1 < bs.length ∧ okAt bs 1 = true then
    if 2 < size0 (nth bs 0) ∧ 2 < bs.length ∧ okAt bs 2 = true then
      if 3 < size0 (nth bs 0) ∧ 3 < bs.length ∧ okAt bs 3 = true then 4 else 3
    else 2
  else 1

theorem front_lo (bs : List Int) : 1 ≤ front bs := by
  unfold front
  repeat' split
  all_goals omega
theorem front_hi (bs : List Int) : front bs ≤ 4 := by
  unfold front
  repeat' split
  all_goals omega
theorem front_len (bs : List Int) (h : 0 < bs.length) : front bs ≤ bs.length := by
  unfold front
  repeat' split
  all_goals omega
theorem front_up (bs : List Int) (k : Nat) (h1 : 1 ≤ k) (hk : k ≤ front bs) (hs : (k : Int) < size0 (nth bs 0)) (hl : k < bs.length) (ho : okAt bs k = true) : k + 1 ≤ front bs := by
  have hs4 := size0_cases (nth bs 0)
  have h4 := front_hi bs
  rcases (show k = 1 ∨ k = 2 ∨ k = 3 by omega) with rfl | rfl | rfl
  · unfold front
    rw [if_pos ⟨by omega, hl, ho⟩]
    repeat' split
    all_goals omega
  · unfold front at hk ⊢
    split at hk
    · rename_i h
      rw [if_pos h, if_pos ⟨by omega, hl, ho⟩]
      repeat' split
      all_goals omega
    · omega
  · unfold front at hk ⊢
    split at hk
    · rename_i h
      rw [if_pos h]
      split at hk
      · rename_i h'
        rw [if_pos h', if_pos ⟨by omega, hl, ho⟩]
        omega
      · omega
    · omega
theorem front_eq (bs : List Int) (k : Nat) (h1 : 1 ≤ k) (hk : k ≤ front bs) (h : ¬ ((k : Int) < size0 (nth bs 0) ∧ k < bs.length ∧ okAt bs k = true)) : front bs = k := by
  have h4 := front_hi bs
  unfold front at *
  rcases (show k = 1 ∨ k = 2 ∨ k = 3 ∨ k = 4 by omega) with rfl | rfl | rfl | rfl
  · rw [if_neg (by simpa using h)]
  · split at hk
    · rename_i g
      rw [if_pos g, if_neg (by simpa using h)]
    · omega
  · split at hk
    · rename_i g
      rw [if_pos g]
      split at hk
      · rename_i g'
        rw [if_pos g', if_neg (by simpa using h)]
      · omega
    · omega
  · repeat' split at hk
    all_goals first | omega | (rename_i g g' g''; rw [if_pos g, if_pos g', if_pos g''])

theorem begins_eq (bs : List Int) (h0 : 0 < bs.length) : begins bs = (decide (bs.length ≤ 3) && decide (front bs = bs.length) && decide ((bs.length : Int) < size0 (nth bs 0))) := by
  have hs4 := size0_cases (nth bs 0)
  have hl := front_len bs h0
  unfold begins
  by_cases hs : (bs.length : Int) < size0 (nth bs 0)
  · have h3 : bs.length ≤ 3 := by omega
    simp only [hs, h3, decide_true, Bool.true_and, Bool.and_true]
    rcases (show bs.length = 1 ∨ bs.length = 2 ∨ bs.length = 3 by omega) with h | h | h
    · have e : front bs = 1 := by unfold front; rw [if_neg (by omega)]
      simp [h, e]
    · by_cases g : snd (nth bs 0) (nth bs 1) = true
      · have e : front bs = 2 := by unfold front; rw [if_pos ⟨by omega, by omega, by simp [okAt, g]⟩, if_neg (by omega)]
        simp [h, e, g]
      · have e : front bs = 1 := by unfold front; rw [if_neg (by simp [okAt, g])]
        simp [h, e, g]
    · by_cases g : snd (nth bs 0) (nth bs 1) = true
      · by_cases g' : cont (nth bs 2) = true
        · have e : front bs = 3 := by unfold front; rw [if_pos ⟨by omega, by omega, by simp [okAt, g]⟩, if_pos ⟨by omega, by omega, by simp [okAt, g']⟩, if_neg (by omega)]
          simp [h, e, g, g']
        · have e : front bs = 2 := by unfold front; rw [if_pos ⟨by omega, by omega, by simp [okAt, g]⟩, if_neg (by simp [okAt, g'])]
          simp [h, e, g, g']
      · have e : front bs = 1 := by unfold front; rw [if_neg (by simp [okAt, g])]
        simp [h, e, g]
  · simp [hs]

def ct (b : Int) : Prop := 128 ≤ b ∧ b ≤ 191
/-- all bytes of a character -/
def Full (bs : List Int) : Prop :=
  (bs.length = 1 ∧ 0 ≤ nth bs 0 ∧ nth bs 0 < 128) ∨ (bs.length = 2 ∧ 194 ≤ nth bs 0 ∧ nth bs 0 ≤ 223 ∧ ct (nth bs 1)) ∨
  (bs.length = 3 ∧ 224 ≤ nth bs 0 ∧ nth bs 0 ≤ 239 ∧ ct (nth bs 1) ∧ ct (nth bs 2)) ∨ (bs.length = 4 ∧ 240 ≤ nth bs 0 ∧ nth bs 0 ≤ 244 ∧ ct (nth bs 1) ∧ ct (nth bs 2) ∧ ct (nth bs 3))
/-- the character of all its bytes -/
def val (bs : List Int) : Int :=
  if bs.length = 1 then nth bs 0 else if bs.length = 2 then (nth bs 0 - 192) * 64 + (nth bs 1 - 128)
  else if bs.length = 3 then (nth bs 0 - 224) * 4096 + (nth bs 1 - 128) * 64 + (nth bs 2 - 128)
  else (nth bs 0 - 240) * 262144 + (nth bs 1 - 128) * 4096 + (nth bs 2 - 128) * 64 + (nth bs 3 - 128)

theorem nth_take (bs : List Int) (n k : Nat) (h : k < n) : nth (bs.take n) k = nth bs k := by simp [nth, h]
theorem nth_drop (bs : List Int) (n k : Nat) : nth (bs.drop n) k = nth bs (n + k) := by simp [nth, List.getElem?_drop]

theorem okAt_ct (bs : List Int) (k : Nat) (h : okAt bs k = true) (h1 : 1 ≤ k) : ct (nth bs k) := by
  unfold okAt at h
  split at h
  · subst k
    simp only [snd, Bool.and_eq_true, decide_eq_true_eq] at h
    unfold lo2 hi2 at h
    unfold ct
    repeat' split at h
    all_goals omega
  · simp only [cont, Bool.and_eq_true, decide_eq_true_eq] at h
    exact h

theorem front_ok (bs : List Int) (k : Nat) (h1 : 1 ≤ k) (hk : k < front bs) : okAt bs k = true := by
  unfold front at hk
  have := front_hi bs
  split at hk
  · rename_i a
    split at hk
    · rename_i b
      split at hk
      · rename_i c
        rcases (show k = 1 ∨ k = 2 ∨ k = 3 by omega) with rfl | rfl | rfl
        · exact a.2.2
        · exact b.2.2
        · exact c.2.2
      · rcases (show k = 1 ∨ k = 2 by omega) with rfl | rfl
        · exact a.2.2
        · exact b.2.2
    · obtain rfl : k = 1 := by omega
      exact a.2.2
  · omega

theorem full_of (bs : List Int) (h0 : 0 < bs.length) (hp : 0 ≤ nth bs 0) (h : (front bs : Int) = size0 (nth bs 0)) : Full (bs.take (front bs)) := by
  have hl := front_len bs h0
  have hlen : (bs.take (front bs)).length = front bs := by simp; omega
  have hs := size0_cases (nth bs 0)
  have hlo := front_lo bs
  have n0 : nth (bs.take (front bs)) 0 = nth bs 0 := nth_take _ _ _ (by omega)
  have g : ∀ k, 1 ≤ k → k < front bs → ct (nth (bs.take (front bs)) k) := fun k h1 hk => by rw [nth_take _ _ _ hk]; exact okAt_ct bs k (front_ok bs k h1 hk) h1
  have hr : (size0 (nth bs 0) = 1 → nth bs 0 < 128) ∧ (size0 (nth bs 0) = 2 → 194 ≤ nth bs 0 ∧ nth bs 0 ≤ 223) ∧ (size0 (nth bs 0) = 3 → 224 ≤ nth bs 0 ∧ nth bs 0 ≤ 239) ∧ (size0 (nth bs 0) = 4 → 240 ≤ nth bs 0 ∧ nth bs 0 ≤ 244) := by
    unfold size0
    repeat' split
    all_goals omega
  unfold Full
  rw [hlen, n0]
  rcases hs with e | e | e | e | e
  · omega
  · exact .inl ⟨by omega, hp, hr.1 e⟩
  · exact .inr (.inl ⟨by omega, (hr.2.1 e).1, (hr.2.1 e).2, g 1 (by omega) (by omega)⟩)
  · exact .inr (.inr (.inl ⟨by omega, (hr.2.2.1 e).1, (hr.2.2.1 e).2, g 1 (by omega) (by omega), g 2 (by omega) (by omega)⟩))
  · exact .inr (.inr (.inr ⟨by omega, (hr.2.2.2 e).1, (hr.2.2.2 e).2, g 1 (by omega) (by omega), g 2 (by omega) (by omega), g 3 (by omega) (by omega)⟩))

/-- what bytes stand for, and the carry -/
def decode (bs : List Int) : List Int × List Int :=
  if h : bs.length = 0 then ([], [])
  else if front bs = bs.length ∧ (front bs : Int) < size0 (nth bs 0) then ([], bs)
  else
    have : bs.length - front bs < bs.length := by have := front_lo bs; omega
    let r := decode (bs.drop (front bs))
    ((if (front bs : Int) = size0 (nth bs 0) then val (bs.take (front bs)) else 65533) :: r.1, r.2)
termination_by bs.length
decreasing_by simp only [List.length_drop]; exact this

theorem decode_nil : decode [] = ([], []) := by unfold decode; rfl
theorem decode_carry (bs : List Int) (h0 : 0 < bs.length) (h1 : front bs = bs.length) (h2 : (front bs : Int) < size0 (nth bs 0)) : decode bs = ([], bs) := by
  unfold decode; rw [dif_neg (by omega), if_pos ⟨h1, h2⟩]
theorem decode_step (bs : List Int) (h0 : 0 < bs.length) (h : ¬ (front bs = bs.length ∧ (front bs : Int) < size0 (nth bs 0))) :
    decode bs = ((if (front bs : Int) = size0 (nth bs 0) then val (bs.take (front bs)) else 65533) :: (decode (bs.drop (front bs))).1, (decode (bs.drop (front bs))).2) := by
  rw [decode]; rw [dif_neg (by omega), if_neg h]
theorem decode_len (bs : List Int) : (decode bs).1.length ≤ bs.length ∧ (decode bs).2.length ≤ bs.length := by
  fun_induction decode bs with
  | case1 bs h => simp
  | case2 bs h1 h2 => simp
  | case3 bs h1 h2 h3 r ih =>
    have := front_lo bs
    simp only [List.length_drop] at ih
    have e1 : r.1.length = (decode (bs.drop (front bs))).1.length := rfl
    have e2 : r.2.length = (decode (bs.drop (front bs))).2.length := rfl
    simp only [List.length_cons]
    constructor <;> omega
end Go.Proofs.YtmkpbfghnkmcgaaDoor
