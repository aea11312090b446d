/- Characters to bytes: the model's l1Char, l1Encode, EncodeText. -/
import Derived.Test.YtmkpbfghnkmcgaaDoorA1
import Derived.Test.YtmkpbfghnkmcgaaDoorH1
import Derived.Maps.AppendAt
import Derived.Laws.AppendOwnNone
namespace Go.Proofs.YtmkpbfghnkmcgaaDoor
open Go.RowKit

def Chr (c : Int) : Prop := (0 ≤ c ∧ c ≤ 55295) ∨ (57344 ≤ c ∧ c ≤ 1114111)
theorem Chr.lo {c : Int} (h : Chr c) : 0 ≤ c := by unfold Chr at h; omega
theorem Chr.hi {c : Int} (h : Chr c) : c ≤ 1114111 := by unfold Chr at h; omega

def enc1 (c : Int) : List Int :=
  if c < 128 then [c] else if c < 2048 then [192 + c / 64, 128 + c % 64]
  else if c < 65536 then [224 + c / 4096, 128 + c / 64 % 64, 128 + c % 64]
  else [240 + c / 262144, 128 + c / 4096 % 64, 128 + c / 64 % 64, 128 + c % 64]

theorem own_new (w : World) (t : TypeId) (vs : Array Value) (n : Nat) (h : vs.size = n) (hm : n ≤ 1000) :
    (w.alloc (.cells vs t)).ownsRow w.heap.size t 1 (.slice (some ⟨w.heap.size, 0, none⟩) n n) n vs.toList :=
  World.ownsRow_lit w vs n (Nat.le_refl _) (by unfold maxLen; omega) (by omega)

set_option maxRecDepth 100000 in
set_option maxHeartbeats 400000 in
theorem l1Char_any (c : Int) (w : World) (h0 : 0 ≤ c) (h1 : c ≤ 1114111) :
    Calls Tryd.prog 54 #[.int .i64 c] w fun e w' => (∃ A c', e = .returned (.slice A (enc1 c).length c') ∧ w'.ownsRow w.heap.size 5 1 (.slice A (enc1 c).length c') (enc1 c).length (nums .u8 (enc1 c))) ∧ Below w.heap.size w w' := by
  by_cases c1 : c < 128
  · have e : Hid (enc1 c = [c]) := Lib.hid (by unfold enc1; rw [if_pos c1])
    go_enter Tryd.func54, Tryd.ntmps54
    go_wp2
    go_ret
    rw [e.out]
    exact ⟨⟨_, _, rfl, own_new w _ #[.int .u8 c] 1 rfl (by omega)⟩, (Below.refl _ _).alloc (Nat.le_refl _) _⟩
  · by_cases c2 : c < 2048
    · have e : Hid (enc1 c = [192 + c / 64, 128 + c % 64]) := Lib.hid (by unfold enc1; rw [if_neg c1, if_pos c2])
      have : 0 ≤ c / 64 := by omega
      have : c / 64 < 32 := by omega
      go_enter Tryd.func54, Tryd.ntmps54
      go_wp2
      go_ret
      rw [e.out]
      exact ⟨⟨_, _, rfl, own_new w _ #[.int .u8 (192 + c / 64), .int .u8 (128 + c % 64)] 2 rfl (by omega)⟩, (Below.refl _ _).alloc (Nat.le_refl _) _⟩
    · by_cases c3 : c < 65536
      · have e : Hid (enc1 c = [224 + c / 4096, 128 + c / 64 % 64, 128 + c % 64]) := Lib.hid (by unfold enc1; rw [if_neg c1, if_neg c2, if_pos c3])
        have : 0 ≤ c / 4096 := by omega
        have : c / 4096 < 16 := by omega
        have : 0 ≤ c / 64 := by omega
        go_enter Tryd.func54, Tryd.ntmps54
        go_wp2
        go_ret
        rw [e.out]
        exact ⟨⟨_, _, rfl, own_new w _ #[.int .u8 (224 + c / 4096), .int .u8 (128 + c / 64 % 64), .int .u8 (128 + c % 64)] 3 rfl (by omega)⟩, (Below.refl _ _).alloc (Nat.le_refl _) _⟩
      · have e : Hid (enc1 c = [240 + c / 262144, 128 + c / 4096 % 64, 128 + c / 64 % 64, 128 + c % 64]) := Lib.hid (by unfold enc1; rw [if_neg c1, if_neg c2, if_neg c3])
        have : 0 ≤ c / 262144 := by omega
        have : c / 262144 < 8 := by omega
        have : 0 ≤ c / 64 := by omega
        have : 0 ≤ c / 4096 := by omega
        go_enter Tryd.func54, Tryd.ntmps54
        go_wp2
        go_ret
        rw [e.out]
        exact ⟨⟨_, _, rfl, own_new w _ #[.int .u8 (240 + c / 262144), .int .u8 (128 + c / 4096 % 64), .int .u8 (128 + c / 64 % 64), .int .u8 (128 + c % 64)] 4 rfl (by omega)⟩, (Below.refl _ _).alloc (Nat.le_refl _) _⟩

def encs (zs : List Int) : List Int := zs.flatMap enc1
theorem enc1_len (c : Int) : (enc1 c).length ≤ 4 := by
  unfold enc1; split <;> try split <;> try split
  all_goals simp
theorem enc1_pos (c : Int) : 0 < (enc1 c).length := by
  unfold enc1
  repeat' split
  all_goals simp
theorem encs_len (zs : List Int) : (encs zs).length ≤ 4 * zs.length := by
  induction zs with
  | nil => simp [encs]
  | cons z zs ih => have := enc1_len z; simp [encs] at ih ⊢; omega
theorem encs_step (zs : List Int) (k : Nat) (h : k < zs.length) : encs (zs.take (k + 1)) = encs (zs.take k) ++ enc1 (nth zs k) := by
  rw [take_nth zs k h]; simp [encs]

set_option maxRecDepth 100000 in
set_option maxHeartbeats 400000 in
theorem l1Encode_any (A : Option Addr) (zs : List Int) (c : Nat) (w : World) (h1 : Rd w w.heap.size A (nums .i64 zs)) (hl : zs.length < 1000000) (hz : ∀ z ∈ zs, 0 ≤ z ∧ z ≤ 1114111) :
    Calls Tryd.prog 42 #[.slice A zs.length c] w fun e w' => (∃ A' c', e = .returned (.slice A' (encs zs).length c') ∧ w'.ownsRow w.heap.size 5 1 (.slice A' (encs zs).length c') (encs zs).length (nums .u8 (encs zs))) ∧ Below w.heap.size w w' := by
  obtain ⟨i0, hi, hz0, hz1, hz2⟩ := info_parts info_uint8
  have H1 := Lib.hid h1
  have HZ := Lib.hid hz
  clear h1 hz
  go_enter Tryd.func42, Tryd.ntmps42
  go_wp2
  go_loopw [3, 4] (fun v i wr => ∃ k : Nat, k ≤ zs.length ∧ i = .int .i64 k ∧ (∃ A' c', v = .slice A' (encs (zs.take k)).length c' ∧ Hid (wr.ownsRow w.heap.size 5 1 (.slice A' (encs (zs.take k)).length c') (encs (zs.take k)).length (nums .u8 (encs (zs.take k))))) ∧ Below w.heap.size w wr) (fun _ i _ => zs.length - (intOf i).toNat)
  case atStart => exact ⟨0, by omega, rfl, ⟨_, _, rfl, Lib.hid (own_new w _ #[] 0 rfl (by omega))⟩, (Below.refl _ _).alloc (Nat.le_refl _) _⟩
  case round =>
    obtain ⟨k, hk, rfl, ⟨A', c', rfl, ho⟩, hbr⟩ := hrel
    by_cases hlt : k < zs.length
    · obtain ⟨b, off, rfl, hb, hc⟩ := (H1.out.below hbr (Nat.le_refl _)).int (by omega)
      have hc0 := hc k hlt
      clear hc
      obtain ⟨z, hz⟩ : ∃ z, Hid (z = nth zs k) := ⟨_, Lib.hid rfl⟩
      have hzr : 0 ≤ z ∧ z ≤ 1114111 := by rw [hz.out]; exact HZ.out _ (by simp [nth, List.getElem?_eq_getElem hlt])
      rw [← hz.out] at hc0
      go_wp2_with fail
      refine (l1Char_any z wr hzr.1 hzr.2).mono ?_
      rintro e w1 ⟨⟨A1, c1, rfl, o1⟩, b1⟩
      have ho1 := Lib.hid (own_below ho.out b1)
      have hl1 := enc1_len z
      have hl2 := encs_len (zs.take k)
      have hl3 : (zs.take k).length ≤ zs.length := List.length_take_le' _ _
      have hr1 := Lib.hid (Rd.of o1)
      have hb1 := below_on hbr b1 (Nat.le_refl _)
      clear o1 b1 ho
      go_wp2_with (at_builtin; refine wpList_app rfl _ _ _ rfl w.heap.size Tryd.underlying22 hi hz0 hz1 hz2 rfl (by omega) rfl ho1.out rfl hr1.out (by rw [nums_length, Nat.mul_one]) (nums_one _ _) (by omega) (by omega) hb1.size ?_; intro v' w2 o2 g2 a2)
      obtain ⟨A2, c2, rfl⟩ := own_form o2
      have e2 : encs (zs.take (k + 1)) = encs (zs.take k) ++ enc1 z := by rw [encs_step zs k hlt, hz.out]
      have HO2 : Hid (w2.ownsRow w.heap.size 5 1 (.slice A2 (encs (zs.take (k + 1))).length c2) (encs (zs.take (k + 1))).length (nums .u8 (encs (zs.take (k + 1))))) := by
        apply Lib.hid
        rw [e2]
        simpa [nums] using o2
      have hb2 : Below w.heap.size w w2 := hb1.grown g2 hb1.size (fun g hg => (ho1.out.lt g hg).1)
      clear o2 g2 a2 e2 hb1 hbr
      go_roundw
      case rel => exact ⟨k + 1, by omega, by go_num, ⟨A2, c2, by rw [encs_step zs k hlt, ← hz.out, List.length_append], HO2⟩, hb2⟩
      case measure => first | omega | (simp [intOf]; omega)
    · have e : zs.take k = zs := List.take_of_length_le (by omega)
      go_wp2
      go_ret
      rw [e] at ho ⊢
      exact ⟨⟨_, _, rfl, ho.out⟩, hbr⟩

def chrB (c : Int) : Bool := decide ((0 ≤ c ∧ c ≤ 55295) ∨ (57344 ≤ c ∧ c ≤ 1114111))
def encode (zs : List Int) : Int × List Int := if 600 < zs.length then (2, []) else if zs.all chrB then (0, encs zs) else (3, [])

theorem all_step (p : Int → Bool) (zs : List Int) (k : Nat) (h : k < zs.length) (hp : p (nth zs k) = true) : (zs.take (k + 1)).all p = (zs.take k).all p := by
  rw [take_nth zs k h, List.all_append]; simp [hp]
theorem all_false (p : Int → Bool) (zs : List Int) (k : Nat) (h : k < zs.length) (hp : p (nth zs k) = false) : zs.all p = false := by
  rw [List.all_eq_false]
  exact ⟨nth zs k, by simp [nth, List.getElem?_eq_getElem h], by simp [hp]⟩
theorem all_chr (zs : List Int) (h : zs.all chrB = true) : ∀ z ∈ zs, 0 ≤ z ∧ z ≤ 1114111 := by
  intro z hz
  have := List.all_eq_true.1 h z hz
  simp only [chrB, decide_eq_true_eq] at this
  omega

set_option maxRecDepth 100000 in
set_option maxHeartbeats 400000 in
theorem specEncodeText_any (A : Option Addr) (zs : List Int) (c : Nat) (w : World) (h1 : Rd w w.heap.size A (nums .i64 zs)) (hl : zs.length < 1000000000) :
    Calls Tryd.prog 15 #[.slice A zs.length c] w fun e w' => (∃ v, e = .returned (.agg #[.int .i64 (encode zs).1, v]) ∧ Own w' w.heap.size w'.heap.size 5 .u8 v (encode zs).2) ∧ Below w.heap.size w w' := by
  by_cases h6 : 600 < zs.length
  · have e : encode zs = (2, []) := by unfold encode; rw [if_pos h6]
    rw [e]
    clear e
    go_enter Tryd.func15, Tryd.ntmps15
    go_wp2
    exact bodyPost_ret (v := .agg #[.int .i64 2, .slice none 0 0]) (by simp [results, Tryd.results15, go_sem]) rfl ⟨⟨_, rfl, Own.nil _ _ _ _ _⟩, (Below.refl _ _).alloc (Nat.le_refl _) _⟩
  · have H1 := Lib.hid h1
    clear h1
    go_enter Tryd.func15, Tryd.ntmps15
    go_wp2
    have b0 := (Below.refl w.heap.size w).alloc (Nat.le_refl _) (.cells #[.int .i64 0, .slice none 0 0] 27)
    go_loop [3] (fun i => ∃ k : Nat, k ≤ zs.length ∧ i = .int .i64 k ∧ Hid ((zs.take k).all chrB = true)) (fun i => zs.length - (intOf i).toNat)
    case atStart => exact ⟨0, by omega, rfl, rfl⟩
    case round =>
      obtain ⟨k, hk, rfl, hs⟩ := hrel
      by_cases hlt : k < zs.length
      · obtain ⟨b, off, rfl, hb, hc⟩ := (H1.out.below b0 (Nat.le_refl _)).int (by omega)
        have hc0 := hc k hlt
        clear hc
        obtain ⟨z, hz⟩ : ∃ z, Hid (z = nth zs k) := ⟨_, Lib.hid rfl⟩
        rw [← hz.out] at hc0
        by_cases hp : chrB z = true
        · have hp' : Hid (decide ((0 ≤ z ∧ z ≤ 55295) ∨ (57344 ≤ z ∧ z ≤ 1114111)) = true) := Lib.hid hp
          have HP := Lib.hid hp
          clear hp
          go_wp2_with (go_at_call 20; refine (specIsChar_any _ _).mono ?_; rintro e w' ⟨rfl, rfl⟩; rw [hp'.out])
          go_round
          case rel => exact ⟨k + 1, by omega, by go_num, Lib.hid (by rw [all_step chrB zs k hlt (by rw [← hz.out]; exact HP.out)]; exact hs.out)⟩
          case measure => first | omega | (simp [intOf]; omega)
        · have hp' : Hid (decide ((0 ≤ z ∧ z ≤ 55295) ∨ (57344 ≤ z ∧ z ≤ 1114111)) = false) := Lib.hid (by simpa [chrB] using hp)
          have e : encode zs = (3, []) := by unfold encode; rw [if_neg h6, all_false chrB zs k hlt (by rw [← hz.out]; simpa using hp)]; rfl
          have E := Lib.hid e
          clear hp e
          go_wp2_with (go_at_call 20; refine (specIsChar_any _ _).mono ?_; rintro e w' ⟨rfl, rfl⟩; rw [hp'.out])
          refine bodyPost_ret (v := .agg #[.int .i64 3, .slice none 0 0]) (by simp [results, Tryd.results15, go_sem]) rfl ?_
          rw [E.out]
          exact ⟨⟨_, rfl, Own.nil _ _ _ _ _⟩, (Below.refl _ _).alloc (Nat.le_refl _) _⟩
      · have hall : zs.all chrB = true := by have := hs.out; rwa [List.take_of_length_le (by omega)] at this
        have e : encode zs = (0, encs zs) := by unfold encode; rw [if_neg h6, hall]; rfl
        have HA := Lib.hid (all_chr zs hall)
        have E := Lib.hid e
        clear e hall
        go_wp2_with fail
        refine (l1Encode_any A zs c _ ((H1.out.below b0 (Nat.le_refl _)).more b0.size) (by omega) HA.out).mono ?_
        rintro e w1 ⟨⟨A1, c1, rfl, o1⟩, b1⟩
        have o2 := Own.mk_ o1 rfl
        have b2 := below_on b0 b1 (Nat.le_refl _)
        have k1 := (Blk.new w 27 #[.int .i64 0, .slice none 0 0]).below b1 (by simp)
        have hc0 := k1.cell 0 (u := .int .i64 0) rfl
        have hc1 := k1.cell 1 (u := .slice none 0 0) rfl
        have hf0 := k1.frozen 0
        have hf1 := k1.frozen 1
        clear o1 b1
        go_wp2
        refine bodyPost_ret (v := .agg #[.int .i64 0, .slice A1 (encs zs).length c1]) (by simp [results, Tryd.results15, go_sem, hc0, hc1]) rfl ?_
        rw [E.out]
        exact ⟨⟨_, rfl, (((o2.set _ _ (.inl (by simp))).set _ _ (.inl (by simp))).more (by simp) (by simp))⟩, (b2.setCell (by simp) _).setCell (by simp) _⟩

end Go.Proofs.YtmkpbfghnkmcgaaDoor
