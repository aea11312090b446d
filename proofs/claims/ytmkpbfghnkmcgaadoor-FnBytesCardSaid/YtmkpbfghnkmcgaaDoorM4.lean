/- More mathematics of chapter 1: bytes that are cut, characters, encodings read back. -/
import Derived.Test.YtmkpbfghnkmcgaaDoorM2
import Derived.Test.YtmkpbfghnkmcgaaDoorE1
namespace Go.Proofs.YtmkpbfghnkmcgaaDoor

theorem nth_app (bs ys : List Int) (k : Nat) (h : k < bs.length) : nth (bs ++ ys) k = nth bs k := by simp [nth, List.getElem?_append_left h]
theorem front_size (bs : List Int) (k : Nat) (h1 : 1 ≤ k) (h : k < front bs) : (k : Int) < size0 (nth bs 0) := by
  unfold front at h
  repeat' split at h
  all_goals omega
theorem okAt_app (bs ys : List Int) (k : Nat) (h : k < bs.length) (h0 : 0 < bs.length) : okAt (bs ++ ys) k = okAt bs k := by
  unfold okAt
  split
  · rw [nth_app bs ys 0 h0, nth_app bs ys 1 (by omega)]
  · rw [nth_app bs ys k h]
theorem front_mono (bs ys : List Int) (h0 : 0 < bs.length) : ∀ j, 1 ≤ j → j ≤ front bs → j ≤ front (bs ++ ys) := by
  intro j
  induction j with
  | zero => intro h; omega
  | succ j ih =>
    intro _ hj
    by_cases hz : j = 0
    · subst hz; exact front_lo _
    · have hl := front_len bs h0
      have := front_size bs j (by omega) (by omega)
      exact front_up (bs ++ ys) j (by omega) (ih (by omega) (by omega)) (by rw [nth_app bs ys 0 h0]; exact this) (by simp; omega) (by rw [okAt_app bs ys j (by omega) h0]; exact front_ok bs j (by omega) (by omega))
theorem front_app (bs ys : List Int) (h0 : 0 < bs.length) (h : ¬ (front bs = bs.length ∧ (front bs : Int) < size0 (nth bs 0))) : front (bs ++ ys) = front bs := by
  have hlo := front_lo bs
  have hl := front_len bs h0
  refine front_eq (bs ++ ys) (front bs) hlo (front_mono bs ys h0 _ hlo (Nat.le_refl _)) ?_
  rintro ⟨a, b, c⟩
  rw [nth_app bs ys 0 h0] at a
  have hlt : front bs < bs.length := by omega
  rw [okAt_app bs ys _ hlt h0] at c
  have := front_up bs (front bs) hlo (Nat.le_refl _) a hlt c
  omega

theorem decode_append (xs ys : List Int) : decode (xs ++ ys) = ((decode xs).1 ++ (decode ((decode xs).2 ++ ys)).1, (decode ((decode xs).2 ++ ys)).2) := by
  fun_induction decode xs with
  | case1 bs h =>
    obtain rfl : bs = [] := List.eq_nil_of_length_eq_zero h
    simp
  | case2 bs h1 h2 => simp
  | case3 bs h1 h2 h3 r ih =>
    have h0 : 0 < bs.length := by omega
    have fa := front_app bs ys h0 h2
    have hl := front_len bs h0
    rw [decode_step (bs ++ ys) (by simp; omega) (by rw [fa, nth_app bs ys 0 h0]; simp; omega), fa, nth_app bs ys 0 h0, List.take_append_of_le_length hl, List.drop_append_of_le_length hl, ih]
    rfl

theorem val_chr (bs : List Int) (h0 : 0 < bs.length) (hp : 0 ≤ nth bs 0) (h : (front bs : Int) = size0 (nth bs 0)) : chrB (val (bs.take (front bs))) = true := by
  have hf := full_of bs h0 hp h
  have hl := front_len bs h0
  have hlen : (bs.take (front bs)).length = front bs := by simp; omega
  have hlo := front_lo bs
  have hs : 2 ≤ front bs → lo2 (nth (bs.take (front bs)) 0) ≤ nth (bs.take (front bs)) 1 ∧ nth (bs.take (front bs)) 1 ≤ hi2 (nth (bs.take (front bs)) 0) := by
    intro h2
    have := front_ok bs 1 (Nat.le_refl _) (by omega)
    rw [nth_take _ _ 0 (by omega), nth_take _ _ 1 (by omega)]
    simpa [okAt, snd] using this
  generalize bs.take (front bs) = cs at hf hlen hs ⊢
  unfold Full ct at hf
  unfold val chrB
  rw [decide_eq_true_eq]
  rcases hf with ⟨hk, a⟩ | ⟨hk, a⟩ | ⟨hk, a⟩ | ⟨hk, a⟩
  · rw [if_pos hk]; omega
  · rw [if_neg (by omega), if_pos hk]; omega
  · have hs := hs (by omega)
    unfold lo2 hi2 at hs
    rw [if_neg (by omega), if_neg (by omega), if_pos hk]
    repeat' split at hs
    all_goals omega
  · have hs := hs (by omega)
    unfold lo2 hi2 at hs
    rw [if_neg (by omega), if_neg (by omega), if_neg (by omega)]
    repeat' split at hs
    all_goals omega

theorem decode_chars (bs : List Int) (hb : ∀ b ∈ bs, 0 ≤ b) : ∀ c ∈ (decode bs).1, chrB c = true := by
  fun_induction decode bs with
  | case1 bs h => simp
  | case2 bs h1 h2 => simp
  | case3 bs h1 h2 h3 r ih =>
    intro c hc
    rcases List.mem_cons.1 hc with rfl | hc
    · split
      · rename_i g
        have h0 : 0 < bs.length := by omega
        refine val_chr bs h0 (hb _ ?_) g
        simp only [nth, List.getElem?_eq_getElem h0, Option.getD_some]
        exact List.getElem_mem h0
      · decide
    · exact ih (fun b h => hb b (List.mem_of_mem_drop h)) c hc

theorem enc1_front (c : Int) (rest : List Int) (hc : chrB c = true) : front (enc1 c ++ rest) = (enc1 c).length ∧ size0 (nth (enc1 c ++ rest) 0) = (enc1 c).length ∧ val (enc1 c) = c ∧ 0 < (enc1 c).length := by
  unfold chrB at hc
  rw [decide_eq_true_eq] at hc
  unfold enc1
  by_cases c1 : c < 128
  · rw [if_pos c1]
    have s : size0 c = 1 := by unfold size0; rw [if_pos c1]
    refine ⟨?_, ?_, ?_, by simp⟩
    · unfold front; rw [if_neg (by simp [nth, s])]; rfl
    · simp [nth, s]
    · simp [val, nth]
  · by_cases c2 : c < 2048
    · rw [if_neg c1, if_pos c2]
      have s : size0 (192 + c / 64) = 2 := by unfold size0; rw [if_neg (by omega), if_pos (by omega)]
      have k : lo2 (192 + c / 64) ≤ 128 + c % 64 ∧ 128 + c % 64 ≤ hi2 (192 + c / 64) := by
        unfold lo2 hi2
        repeat' split
        all_goals omega
      refine ⟨?_, ?_, ?_, by simp⟩
      · unfold front
        rw [if_pos ⟨by simp [nth, s], by simp, by simp [okAt, snd, nth, k]⟩, if_neg (by simp [nth, s])]; rfl
      · simp [nth, s]
      · simp [val, nth]; omega
    · by_cases c3 : c < 65536
      · rw [if_neg c1, if_neg c2, if_pos c3]
        have s : size0 (224 + c / 4096) = 3 := by unfold size0; rw [if_neg (by omega), if_neg (by omega), if_pos (by omega)]
        have k : lo2 (224 + c / 4096) ≤ 128 + c / 64 % 64 ∧ 128 + c / 64 % 64 ≤ hi2 (224 + c / 4096) := by
          unfold lo2 hi2
          repeat' split
          all_goals omega
        have k2 : 128 ≤ 128 + c % 64 ∧ 128 + c % 64 ≤ 191 := by omega
        refine ⟨?_, ?_, ?_, by simp⟩
        · unfold front
          rw [if_pos ⟨by simp [nth, s], by simp, by simp [okAt, snd, nth, k]⟩, if_pos ⟨by simp [nth, s], by simp, by simp only [okAt, cont, nth]; simp; omega⟩, if_neg (by simp [nth, s])]; rfl
        · simp [nth, s]
        · simp [val, nth]; omega
      · rw [if_neg c1, if_neg c2, if_neg c3]
        have s : size0 (240 + c / 262144) = 4 := by unfold size0; rw [if_neg (by omega), if_neg (by omega), if_neg (by omega), if_pos (by omega)]
        have k : lo2 (240 + c / 262144) ≤ 128 + c / 4096 % 64 ∧ 128 + c / 4096 % 64 ≤ hi2 (240 + c / 262144) := by
          unfold lo2 hi2
          repeat' split
          all_goals omega
        refine ⟨?_, ?_, ?_, by simp⟩
        · unfold front
          rw [if_pos ⟨by simp [nth, s], by simp, by simp [okAt, snd, nth, k]⟩, if_pos ⟨by simp [nth, s], by simp, by simp only [okAt, cont, nth]; simp; omega⟩, if_pos ⟨by simp [nth, s], by simp, by simp only [okAt, cont, nth]; simp; omega⟩]; rfl
        · simp [nth, s]
        · simp [val, nth]; omega

theorem decode_enc1 (c : Int) (rest : List Int) (hc : chrB c = true) : decode (enc1 c ++ rest) = (c :: (decode rest).1, (decode rest).2) := by
  obtain ⟨hf, hs, hv, hl⟩ := enc1_front c rest hc
  rw [decode_step (enc1 c ++ rest) (by simp; omega) (by rw [hf, hs]; omega), hf, hs, if_pos rfl, List.take_left, List.drop_left, hv]

theorem decode_encs (zs : List Int) (hz : ∀ z ∈ zs, chrB z = true) : decode (encs zs) = (zs, []) := by
  induction zs with
  | nil => simp [encs, decode_nil]
  | cons z zs ih =>
    have e : encs (z :: zs) = enc1 z ++ encs zs := by simp [encs]
    rw [e, decode_enc1 z _ (hz z (by simp)), ih (fun y hy => hz y (by simp [hy]))]
end Go.Proofs.YtmkpbfghnkmcgaaDoor
