/- What the library's decoder hands back is what the bytes stand for. No program is named here. -/
import Derived.Test.YtmkpbfghnkmcgaaDoorM1
namespace Go.Proofs.YtmkpbfghnkmcgaaDoor

/-- the character at the front (or 65533), and how many bytes are taken -/
def dr (bs : List Int) : Int × Int := if (front bs : Int) = size0 (nth bs 0) then (val (bs.take (front bs)), front bs) else (65533, 1)

def slowR (n : Nat) (b0 b1 b2 b3 sz lo hi : Int) : Int × Int :=
  if (n : Int) < sz ∨ b1 < lo ∨ hi < b1 then (65533, 1)
  else if sz ≤ 2 then (b0 % 32 * 64 + b1 % 64, 2)
  else if b2 < 128 ∨ 191 < b2 then (65533, 1)
  else if sz ≤ 3 then (b0 % 16 * 4096 + b1 % 64 * 64 + b2 % 64, 3)
  else if b3 < 128 ∨ 191 < b3 then (65533, 1)
  else (b0 % 8 * 262144 + b1 % 64 * 4096 + b2 % 64 * 64 + b3 % 64, 4)

theorem dr_bad (bs : List Int) (k : Nat) (h1 : 1 ≤ k) (hk : (k : Int) < size0 (nth bs 0)) (hb : k < bs.length → okAt bs k = false) (hf : k ≤ front bs) : dr bs = (65533, 1) := by
  have : front bs = k := front_eq bs k h1 hf (by rintro ⟨_, h, h'⟩; rw [hb h] at h'; cases h')
  unfold dr
  rw [if_neg (by omega)]

theorem okAt1 (bs : List Int) : okAt bs 1 = (decide (lo2 (nth bs 0) ≤ nth bs 1) && decide (nth bs 1 ≤ hi2 (nth bs 0))) := by simp [okAt, snd]
theorem okAtk (bs : List Int) (k : Nat) (h : 1 < k) : okAt bs k = (decide (128 ≤ nth bs k) && decide (nth bs k ≤ 191)) := by simp [okAt, cont, show k ≠ 1 by omega]

theorem full_front (bs : List Int) (s : Nat) (hs : (s : Int) = size0 (nth bs 0)) (h1 : 1 ≤ s) (hn : s ≤ bs.length) (ho : ∀ k, 1 ≤ k → k < s → okAt bs k = true) : front bs = s := by
  have h : ∀ k, 1 ≤ k → k ≤ s → k ≤ front bs := by
    intro k
    induction k with
    | zero => omega
    | succ k ih =>
      intro _ hk
      by_cases hk0 : k = 0
      · subst hk0; exact front_lo bs
      · exact front_up bs k (by omega) (ih (by omega) (by omega)) (by omega) (by omega) (ho k (by omega) (by omega))
  exact front_eq bs s h1 (h s h1 (Nat.le_refl _)) (by omega)

theorem slow_dr (bs : List Int) (h0 : 0 < bs.length) (hs : 2 ≤ size0 (nth bs 0)) : slowR bs.length (nth bs 0) (nth bs 1) (nth bs 2) (nth bs 3) (size0 (nth bs 0)) (lo2 (nth bs 0)) (hi2 (nth bs 0)) = dr bs := by
  have hs4 := size0_cases (nth bs 0)
  have hr : (size0 (nth bs 0) = 2 → 194 ≤ nth bs 0 ∧ nth bs 0 ≤ 223) ∧ (size0 (nth bs 0) = 3 → 224 ≤ nth bs 0 ∧ nth bs 0 ≤ 239) ∧ (size0 (nth bs 0) = 4 → 240 ≤ nth bs 0 ∧ nth bs 0 ≤ 244) := by
    unfold size0
    repeat' split
    all_goals omega
  have o1 := okAt1 bs
  have o2 := okAtk bs 2 (by omega)
  have o3 := okAtk bs 3 (by omega)
  have f1 := front_lo bs
  by_cases g1 : 1 < bs.length ∧ okAt bs 1 = true
  · have c1 := okAt_ct bs 1 g1.2 (by omega)
    unfold ct at c1
    have f2 := front_up bs 1 (by omega) f1 (by omega) g1.1 g1.2
    have e1 : ¬ (nth bs 1 < lo2 (nth bs 0) ∨ hi2 (nth bs 0) < nth bs 1) := by
      rw [g1.2] at o1
      simp only [Bool.and_eq_true, decide_eq_true_eq, eq_comm (a := true)] at o1
      omega
    by_cases s2 : size0 (nth bs 0) = 2
    · have ff := full_front bs 2 (by omega) (by omega) (by omega) (fun k h1 h2 => by
        have e : k = 1 := by omega
        rw [e]; exact g1.2)
      unfold slowR dr
      rw [if_neg (by omega), if_pos (by omega), if_pos (by omega), ff]
      unfold val
      rw [if_neg (by simp; omega), if_pos (by simp; omega), nth_take _ _ _ (by omega), nth_take _ _ _ (by omega)]
      have := hr.1 s2
      simp only [Prod.mk.injEq]
      omega
    · by_cases g2 : 2 < bs.length ∧ okAt bs 2 = true
      · have c2 := okAt_ct bs 2 g2.2 (by omega)
        unfold ct at c2
        have f3 := front_up bs 2 (by omega) f2 (by omega) g2.1 g2.2
        by_cases s3 : size0 (nth bs 0) = 3
        · have ff := full_front bs 3 (by omega) (by omega) (by omega) (fun k h1 h2 => by
            rcases (show k = 1 ∨ k = 2 by omega) with rfl | rfl
            · exact g1.2
            · exact g2.2)
          unfold slowR dr
          rw [if_neg (by omega), if_neg (by omega), if_neg (by omega), if_pos (by omega), if_pos (by omega), ff]
          unfold val
          rw [if_neg (by simp; omega), if_neg (by simp; omega), if_pos (by simp; omega), nth_take _ _ _ (by omega), nth_take _ _ _ (by omega), nth_take _ _ _ (by omega)]
          have := hr.2.1 s3
          simp only [Prod.mk.injEq]
          omega
        · by_cases g3 : 3 < bs.length ∧ okAt bs 3 = true
          · have c3 := okAt_ct bs 3 g3.2 (by omega)
            unfold ct at c3
            have ff := full_front bs 4 (by omega) (by omega) (by omega) (fun k h1 h2 => by
              rcases (show k = 1 ∨ k = 2 ∨ k = 3 by omega) with rfl | rfl | rfl
              · exact g1.2
              · exact g2.2
              · exact g3.2)
            unfold slowR dr
            rw [if_neg (by omega), if_neg (by omega), if_neg (by omega), if_neg (by omega), if_neg (by omega), if_pos (by omega), ff]
            unfold val
            rw [if_neg (by simp; omega), if_neg (by simp; omega), if_neg (by simp; omega), nth_take _ _ _ (by omega), nth_take _ _ _ (by omega), nth_take _ _ _ (by omega), nth_take _ _ _ (by omega)]
            have := hr.2.2 (by omega)
            simp only [Prod.mk.injEq]
            omega
          · have e3 : bs.length ≤ 3 ∨ okAt bs 3 = false := by
              by_cases h : 3 < bs.length
              · exact .inr (by simpa [h] using g3)
              · exact .inl (by omega)
            rw [dr_bad bs 3 (by omega) (by omega) (fun h => by rcases e3 with e | e; omega; exact e) f3]
            unfold slowR
            rcases e3 with e | e
            · rw [if_pos (by omega)]
            · rw [e] at o3
              simp only [Bool.and_eq_false_iff, decide_eq_false_iff_not, eq_comm (a := false)] at o3
              split
              · rfl
              · rw [if_neg (by omega), if_neg (by omega), if_neg (by omega), if_pos (by omega)]
      · have e2 : bs.length ≤ 2 ∨ okAt bs 2 = false := by
          by_cases h : 2 < bs.length
          · exact .inr (by simpa [h] using g2)
          · exact .inl (by omega)
        rw [dr_bad bs 2 (by omega) (by omega) (fun h => by rcases e2 with e | e; omega; exact e) f2]
        unfold slowR
        rcases e2 with e | e
        · rw [if_pos (by omega)]
        · rw [e] at o2
          simp only [Bool.and_eq_false_iff, decide_eq_false_iff_not, eq_comm (a := false)] at o2
          split
          · rfl
          · rw [if_neg (by omega), if_pos (by omega)]
  · have e1 : bs.length ≤ 1 ∨ okAt bs 1 = false := by
      by_cases h : 1 < bs.length
      · exact .inr (by simpa [h] using g1)
      · exact .inl (by omega)
    rw [dr_bad bs 1 (by omega) (by omega) (fun h => by rcases e1 with e | e; omega; exact e) f1]
    unfold slowR
    rcases e1 with e | e
    · rw [if_pos (by omega)]
    · rw [e] at o1
      simp only [Bool.and_eq_false_iff, decide_eq_false_iff_not, eq_comm (a := false)] at o1
      rw [if_pos (by omega)]

theorem dr_ascii (bs : List Int) (h0 : 0 < bs.length) (h : nth bs 0 < 128) : dr bs = (nth bs 0, 1) := by
  have e : size0 (nth bs 0) = 1 := by unfold size0; rw [if_pos h]
  have ef : front bs = 1 := by unfold front; rw [if_neg (by omega)]
  unfold dr
  rw [if_pos (by omega), ef]
  unfold val
  rw [if_pos (by simp; omega), nth_take _ _ _ (by omega)]
  rfl
theorem dr_invalid (bs : List Int) (h : size0 (nth bs 0) = 0) : dr bs = (65533, 1) := by
  have := front_lo bs
  unfold dr
  rw [if_neg (by omega)]

theorem begins_take (bs : List Int) (k : Nat) (h1 : 1 ≤ k) (hl : k < bs.length) (hf : k ≤ front bs) : begins (bs.take (k + 1)) = (decide (((k + 1 : Nat) : Int) < size0 (nth bs 0)) && okAt bs k) := by
  have hlen : (bs.take (k + 1)).length = k + 1 := by simp; omega
  have n0 : nth (bs.take (k + 1)) 0 = nth bs 0 := nth_take _ _ _ (by omega)
  have n1 : nth (bs.take (k + 1)) 1 = nth bs 1 := nth_take _ _ _ (by omega)
  have hs := size0_cases (nth bs 0)
  have h4 := front_hi bs
  unfold begins
  rw [hlen, n0, n1]
  rcases (show k = 1 ∨ k = 2 ∨ k = 3 ∨ k = 4 by omega) with rfl | rfl | rfl | rfl
  · simp [okAt]
  · have o1 := front_ok bs 1 (by omega) (by omega)
    have n2 : nth (bs.take (2 + 1)) 2 = nth bs 2 := nth_take _ _ _ (by omega)
    rw [n2]
    have : snd (nth bs 0) (nth bs 1) = true := by simpa [okAt] using o1
    simp [okAt, this]
  · have d : decide (((3 + 1 : Nat) : Int) < size0 (nth bs 0)) = false := by simp; omega
    rw [d]; simp
  · have d : decide (((4 + 1 : Nat) : Int) < size0 (nth bs 0)) = false := by simp; omega
    rw [d]; simp
theorem begins_go (bs : List Int) (k : Nat) (h1 : 1 ≤ k) (hl : k < bs.length) (hf : k ≤ front bs) (h : begins (bs.take (k + 1)) = true) : k + 1 ≤ front bs := by
  rw [begins_take bs k h1 hl hf] at h
  simp only [Bool.and_eq_true, decide_eq_true_eq] at h
  exact front_up bs k h1 hf (by omega) hl h.2
theorem begins_end (bs : List Int) (k : Nat) (h1 : 1 ≤ k) (hl : k < bs.length) (hf : k ≤ front bs) (h : begins (bs.take (k + 1)) = false) (hn : (front bs : Int) ≠ size0 (nth bs 0)) : front bs = k := by
  rw [begins_take bs k h1 hl hf] at h
  apply front_eq bs k h1 hf
  rintro ⟨a, b, c⟩
  rw [c, Bool.and_true, decide_eq_false_iff_not] at h
  have := front_up bs k h1 hf a b c
  have e : size0 (nth bs 0) = ((k + 1 : Nat) : Int) := by omega
  have ff := front_eq bs (k + 1) (by omega) this (by rw [e]; omega)
  exact hn (by rw [ff, e])

/-- a beginning at the very end -/
def opn (bs : List Int) : Bool := decide ((front bs : Int) ≠ size0 (nth bs 0)) && begins bs
theorem dr_full (bs : List Int) (h : (front bs : Int) = size0 (nth bs 0)) : dr bs = (val (bs.take (front bs)), (front bs : Int)) := by unfold dr; rw [if_pos h]
theorem dr_part (bs : List Int) (h : (front bs : Int) ≠ size0 (nth bs 0)) : dr bs = (65533, 1) := by unfold dr; rw [if_neg h]
theorem val_range (bs : List Int) (h : Full bs) : 0 ≤ val bs ∧ val bs ≤ 2097151 := by
  unfold Full ct at h
  unfold val
  rcases h with ⟨hl, a⟩ | ⟨hl, a⟩ | ⟨hl, a⟩ | ⟨hl, a⟩
  · rw [if_pos hl]; omega
  · rw [if_neg (by omega), if_pos hl]; omega
  · rw [if_neg (by omega), if_neg (by omega), if_pos hl]; omega
  · rw [if_neg (by omega), if_neg (by omega), if_neg (by omega)]; omega
theorem val_one (bs : List Int) (h : Full bs) (h1 : bs.length = 1) : val bs < 128 := by
  unfold Full at h
  unfold val
  rw [if_pos h1]; omega
end Go.Proofs.YtmkpbfghnkmcgaaDoor
