/- Chapter 6's mathematics: steps over a list of classes. No program is named here. -/
import Derived.Test.YtcfnhjpmihngdaaGreatY02
import Derived.Test.YtcfnhjpmihngdaaGreatY03
import Derived.Lib.TrimUEq
import Derived.Lib.OthersKept
import Derived.Laws.BytesString
import Derived.Laws.IdiomStrings
namespace Go.Proofs.YtcfnhjpmihngdaaGreat
open Go.RowKit

set_option maxRecDepth 100000 in
set_option maxHeartbeats 400000 in
theorem l1Ints_own (v : Value) (bs : List Int) (w : World) (B : Nat) (h : Sees w B .i64 v bs) (hB : B ≤ w.heap.size) (hl : bs.length < 1000000000) :
    Calls Tryz.prog 62 #[v] w fun e w' => (∃ v', e = .returned v' ∧ Own w' w.heap.size w'.heap.size 2 .i64 v' bs) ∧ Below w.heap.size w w' := by
  obtain ⟨i0, hi, hz0, hz1, hz2⟩ := info_parts info_int64
  obtain ⟨A, c, rfl, hr⟩ := h
  have HR := Lib.hid (hr.below ((Below.refl B w).alloc hB (.cells #[] 2)) (Nat.le_refl _))
  have o0 := Lib.hid (World.ownsRow_lit (base := w.heap.size) (e := 2) (size := 1) w #[] 0 (Nat.le_refl _) (by unfold maxLen; omega) rfl)
  clear hr
  go_enter Tryz.func62, Tryz.ntmps62
  go_wp2_with (at_builtin; refine wpList_app rfl _ _ _ rfl w.heap.size Tryz.underlying22 hi hz0 hz1 hz2 rfl (by omega) rfl o0.out rfl HR.out (by rw [nums_length, Nat.mul_one]) (nums_one _ _) (by omega) (by omega) (by simp) ?_; intro v' w2 o2 g2 a2)
  go_ret
  refine ⟨⟨v', rfl, Own.mk_ (n := 0 + bs.length) (by simpa using o2) (by omega)⟩, ((Below.refl w.heap.size w).alloc (Nat.le_refl _) _).grown g2 (by simp) (fun k hk => (o0.out.lt k hk).1)⟩
end Go.Proofs.YtcfnhjpmihngdaaGreat

namespace Go.Proofs.YtcfnhjpmihngdaaGreat
open Go.RowKit

def toU8 (z : Int) : UInt8 := UInt8.ofNat z.toNat
theorem toU8_nat (n : Nat) (h : n < 256) : (toU8 (n : Int)).toNat = n := by
  unfold toU8
  rw [UInt8.toNat_ofNat']
  simp
  omega
/-- bytes as a string -/
def bstr (bs : List Int) : ByteArray := ⟨(bs.map toU8).toArray⟩
theorem bstr_list (bs : List Int) : (bstr bs).data.toList = bs.map toU8 := by simp [bstr]
theorem bstr_size (bs : List Int) : (bstr bs).size = bs.length := by
  show (bstr bs).data.size = _
  simp [bstr]

theorem enc1_bytes (c : Int) (hc : chrB c = true) : ∀ b ∈ enc1 c, 0 ≤ b ∧ b < 256 := by
  simp only [chrB, decide_eq_true_eq] at hc
  unfold enc1
  split
  · simp; omega
  · split
    · simp; omega
    · split
      · simp; omega
      · simp; omega
theorem encs_bytes (zs : List Int) (hz : zs.all chrB = true) : ∀ b ∈ encs zs, 0 ≤ b ∧ b < 256 := by
  intro b hb
  simp only [encs, List.mem_flatMap] at hb
  obtain ⟨z, h1, h2⟩ := hb
  exact enc1_bytes z (List.all_eq_true.1 hz z h1) b h2

set_option maxRecDepth 100000 in
set_option maxHeartbeats 1000000 in
theorem decodeL_enc (c : Int) (hc : chrB c = true) (rest : List UInt8) : Lib.decodeL ((enc1 c).map toU8 ++ rest) = (c.toNat, (enc1 c).length) := by
  simp only [chrB, decide_eq_true_eq] at hc
  obtain ⟨n, rfl⟩ : ∃ n : Nat, c = (n : Int) := ⟨c.toNat, by omega⟩
  rw [Lib.decodeL_N]
  unfold enc1
  by_cases c1 : (n : Int) < 128
  · rw [if_pos c1]
    simp only [List.map_cons, List.map_nil, List.cons_append, List.nil_append, List.getD_cons_zero, List.length_cons, List.length_nil]
    rw [toU8_nat n (by omega)]
    unfold Lib.decodeN
    rw [if_pos (by omega)]
    simp
  · rw [if_neg c1]
    by_cases c2 : (n : Int) < 2048
    · rw [if_pos c2]
      have e0 : 192 + (n : Int) / 64 = ((192 + n / 64 : Nat) : Int) := by omega
      have e1 : 128 + (n : Int) % 64 = ((128 + n % 64 : Nat) : Int) := by omega
      rw [e0, e1]
      simp only [List.map_cons, List.map_nil, List.cons_append, List.nil_append, List.getD_cons_zero, List.getD_cons_succ, List.length_cons, List.length_nil]
      rw [toU8_nat _ (by omega), toU8_nat _ (by omega)]
      unfold Lib.decodeN
      rw [if_neg (by omega), if_pos ⟨by omega, by omega, by omega⟩, if_pos (by omega)]
      apply Prod.ext <;> simp only <;> omega
    · rw [if_neg c2]
      by_cases c3 : (n : Int) < 65536
      · rw [if_pos c3]
        have e0 : 224 + (n : Int) / 4096 = ((224 + n / 4096 : Nat) : Int) := by omega
        have e1 : 128 + (n : Int) / 64 % 64 = ((128 + n / 64 % 64 : Nat) : Int) := by omega
        have e2 : 128 + (n : Int) % 64 = ((128 + n % 64 : Nat) : Int) := by omega
        rw [e0, e1, e2]
        simp only [List.map_cons, List.map_nil, List.cons_append, List.nil_append, List.getD_cons_zero, List.getD_cons_succ, List.length_cons, List.length_nil]
        rw [toU8_nat _ (by omega), toU8_nat _ (by omega), toU8_nat _ (by omega)]
        unfold Lib.decodeN
        rw [if_neg (by omega), if_neg (by omega), if_pos ⟨by omega, ⟨by omega, by omega⟩, by omega, by omega⟩, if_pos ⟨by omega, by omega⟩]
        apply Prod.ext <;> simp only <;> omega
      · rw [if_neg c3]
        have e0 : 240 + (n : Int) / 262144 = ((240 + n / 262144 : Nat) : Int) := by omega
        have e1 : 128 + (n : Int) / 4096 % 64 = ((128 + n / 4096 % 64 : Nat) : Int) := by omega
        have e2 : 128 + (n : Int) / 64 % 64 = ((128 + n / 64 % 64 : Nat) : Int) := by omega
        have e3 : 128 + (n : Int) % 64 = ((128 + n % 64 : Nat) : Int) := by omega
        rw [e0, e1, e2, e3]
        simp only [List.map_cons, List.map_nil, List.cons_append, List.nil_append, List.getD_cons_zero, List.getD_cons_succ, List.length_cons, List.length_nil]
        rw [toU8_nat _ (by omega), toU8_nat _ (by omega), toU8_nat _ (by omega), toU8_nat _ (by omega)]
        unfold Lib.decodeN
        rw [if_neg (by omega), if_neg (by omega), if_neg (by omega), if_pos ⟨by omega, ⟨by omega, by omega⟩, ⟨by omega, by omega⟩, by omega, by omega⟩, if_pos ⟨by omega, by omega⟩]
        apply Prod.ext <;> simp only <;> omega

/-- where the k-th character's bytes begin -/
def encAt (zs : List Int) (k : Nat) : Nat := (encs (zs.take k)).length
theorem encAt_zero (zs : List Int) : encAt zs 0 = 0 := by simp [encAt, encs]
theorem encAt_step (zs : List Int) (k : Nat) (h : k < zs.length) : encAt zs (k + 1) = encAt zs k + (enc1 (nth zs k)).length := by
  unfold encAt; rw [encs_step zs k h, List.length_append]
theorem encs_split (zs : List Int) (k : Nat) (h : k < zs.length) : encs zs = encs (zs.take k) ++ (enc1 (nth zs k) ++ encs (zs.drop (k + 1))) := by
  have e : zs = zs.take k ++ (nth zs k :: zs.drop (k + 1)) := by rw [← drop_nth zs k h, List.take_append_drop]
  have : encs zs = encs (zs.take k ++ (nth zs k :: zs.drop (k + 1))) := by rw [← e]
  rw [this]; simp [encs]
theorem encAt_lt (zs : List Int) (k : Nat) (h : k < zs.length) : encAt zs k < (encs zs).length := by
  rw [encs_split zs k h]
  have := enc1_pos (nth zs k)
  simp [encAt]
  omega
theorem encAt_end (zs : List Int) (k : Nat) (h : zs.length ≤ k) : encAt zs k = (encs zs).length := by unfold encAt; rw [List.take_of_length_le h]
theorem encAt_le (zs : List Int) (k : Nat) : encAt zs k ≤ (encs zs).length := by
  by_cases h : k < zs.length
  · exact Nat.le_of_lt (encAt_lt zs k h)
  · rw [encAt_end zs k (by omega)]; exact Nat.le_refl _

theorem chr_nth (zs : List Int) (hz : zs.all chrB = true) (k : Nat) (h : k < zs.length) : chrB (nth zs k) = true :=
  List.all_eq_true.1 hz _ (by simp [nth, List.getElem?_eq_getElem h])

/-- what stands at the k-th character -/
theorem decode_encAt (zs : List Int) (hz : zs.all chrB = true) (k : Nat) (h : k < zs.length) :
    Utf8.decode (bstr (encs zs)) (encAt zs k) = ((nth zs k).toNat, (enc1 (nth zs k)).length) := by
  rw [← Lib.decodeL_drop, bstr_list]
  have e : ((encs zs).map toU8).drop (encAt zs k) = (enc1 (nth zs k)).map toU8 ++ (encs (zs.drop (k + 1))).map toU8 := by
    rw [encs_split zs k h, List.map_append, List.map_append]
    unfold encAt
    rw [List.drop_append_of_le_length (by simp)]
    simp
  rw [e, decodeL_enc _ (chr_nth zs hz k h)]

/-- a step of a range over the string of a text -/
theorem next_text {P : Program} (w : World) (g : Nat) (zs : List Int) (hz : zs.all chrB = true) (k : Nat) (h : k < zs.length) (ty : TypeId) (hk : w.heap[g]? = some (.stringIter (bstr (encs zs)) (encAt zs k))) :
    (Instr.next (.pointer (some ⟨g, 0, none⟩)) true ty).run P w =
      .ok (.tuple #[.bool true, .int .i64 (encAt zs k), .int .i32 (nth zs k)]) (w.iterAt g (bstr (encs zs)) (encAt zs (k + 1))) := by
  rw [Lib.run_next_any_at w g (bstr (encs zs)) (encAt zs k) ty hk (by rw [bstr_size]; exact encAt_lt zs k h), decode_encAt zs hz k h, encAt_step zs k h]
  have hc := chr_nth zs hz k h
  simp only [chrB, decide_eq_true_eq] at hc
  have : ((nth zs k).toNat : Int) = nth zs k := by omega
  simp only [this]
theorem next_end {P : Program} (w : World) (g : Nat) (zs : List Int) (k : Nat) (h : zs.length ≤ k) (ty : TypeId) (hk : w.heap[g]? = some (.stringIter (bstr (encs zs)) (encAt zs k))) :
    (Instr.next (.pointer (some ⟨g, 0, none⟩)) true ty).run P w = .ok (.tuple #[.bool false]) w :=
  Lib.run_next_end_at w g (bstr (encs zs)) (encAt zs k) ty hk (by rw [bstr_size, encAt_end zs k h]; omega)

/-- 'string(bytes)' -/
theorem run_bstr {P : Program} (w : World) (src dst e : TypeId) (A : Option Addr) (c : Nat) (bs : List Int) (hs : P.underlying src = some (.slice e)) (he : P.underlying e = some (.int .u8)) (hd : P.underlying dst = some .string)
    (B : Nat) (hr : Rd w B A (nums .u8 bs)) (hb : ∀ b ∈ bs, 0 ≤ b ∧ b < 256) : (convert src dst (.slice A bs.length c)).run P w = .ok (.string (bstr bs)) w := by
  match A, hr with
  | none, hr =>
    have h0 : bs = [] := by
      cases bs with
      | nil => rfl
      | cons b bs =>
        obtain ⟨_, _, e', _⟩ := hr 0 (.int .u8 b) rfl
        cases e'
    subst h0
    rw [run_convert_bytes_string w src dst e none _ c hs he hd]
    rfl
  | some a, hr =>
    have hl : (bs.map toU8).length = bs.length := by simp
    have := run_convert_bytes_back (P := P) w src dst e a c (bs.map toU8) hs he hd (fun j hj => by
      have hj' : j < bs.length := by simpa using hj
      rw [hr.cells j _ (nums_get .u8 bs j hj')]
      have hb' := hb _ (List.getElem_mem hj')
      obtain ⟨n, hn⟩ : ∃ n : Nat, bs[j] = (n : Int) := ⟨bs[j].toNat, by omega⟩
      simp only [List.getElem_map, nth, List.getElem?_eq_getElem hj', Option.getD_some, hn]
      rw [toU8_nat n (by omega)])
    rw [hl] at this
    exact this
end Go.Proofs.YtcfnhjpmihngdaaGreat

namespace Go.Proofs.YtcfnhjpmihngdaaGreat
open Go.RowKit

def hasC (os : List Int) (z : Int) : Bool := os.any (fun x => decide (z = x))
theorem hasC_mem (os : List Int) (z : Int) : hasC os z = true ↔ z ∈ os := by
  unfold hasC
  rw [List.any_eq_true]
  constructor
  · rintro ⟨x, hx, h⟩
    rw [of_decide_eq_true h]; exact hx
  · exact fun h => ⟨z, h, decide_eq_true rfl⟩
theorem nth_eq_of (a b : List Int) (hl : a.length = b.length) (h : ∀ j, j < a.length → nth a j = nth b j) : a = b := by
  refine List.ext_getElem hl fun i h1 h2 => ?_
  have := h i h1
  unfold nth at this
  rwa [List.getElem?_eq_getElem h1, List.getElem?_eq_getElem h2] at this
theorem all_nth {P : Int → Prop} {xs : List Int} (h : ∀ j, j < xs.length → P (nth xs j)) : ∀ x ∈ xs, P x := by
  intro x hx
  obtain ⟨i, hi, rfl⟩ := List.mem_iff_getElem.1 hx
  have := h i hi
  unfold nth at this
  rwa [List.getElem?_eq_getElem hi] at this
theorem nth_all {P : Int → Prop} {xs : List Int} (h : ∀ x ∈ xs, P x) (j : Nat) (hj : j < xs.length) : P (nth xs j) := by
  unfold nth; rw [List.getElem?_eq_getElem hj]; exact h _ (List.getElem_mem hj)
/-- the classes that os names become what f tells of their place, one behind the other, where they stand -/
def stepN (os : List Int) (f : List Int → Nat → Int) (xs : List Int) : Nat → List Int
  | 0 => xs
  | k + 1 => if hasC os (nth (stepN os f xs k) k) = true then (stepN os f xs k).set k (f (stepN os f xs k) k) else stepN os f xs k
def doStep (os : List Int) (f : List Int → Nat → Int) (xs : List Int) : List Int := stepN os f xs xs.length
section
variable (os : List Int) (f : List Int → Nat → Int) (xs : List Int)
theorem stepN_zero : stepN os f xs 0 = xs := rfl
theorem stepN_hit (k : Nat) (h : hasC os (nth (stepN os f xs k) k) = true) : stepN os f xs (k + 1) = (stepN os f xs k).set k (f (stepN os f xs k) k) := by show (if _ then _ else _) = _; rw [if_pos h]
theorem stepN_miss (k : Nat) (h : hasC os (nth (stepN os f xs k) k) = false) : stepN os f xs (k + 1) = stepN os f xs k := by show (if _ then _ else _) = _; rw [if_neg (by rw [h]; simp)]
theorem stepN_len : ∀ k, (stepN os f xs k).length = xs.length
  | 0 => rfl
  | k + 1 => by
    show (if _ then _ else _ : List Int).length = _
    split
    · rw [List.length_set, stepN_len k]
    · exact stepN_len k
theorem doStep_len : (doStep os f xs).length = xs.length := stepN_len _ _ _ _
theorem stepN_next (k j : Nat) (hk : k < xs.length) : nth (stepN os f xs (k + 1)) j = if j = k then (if hasC os (nth (stepN os f xs k) k) = true then f (stepN os f xs k) k else nth (stepN os f xs k) k) else nth (stepN os f xs k) j := by
  by_cases h : hasC os (nth (stepN os f xs k) k) = true
  · rw [stepN_hit _ _ _ k h, nth_set _ _ _ _ (by rw [stepN_len]; exact hk)]
    by_cases e : j = k
    · subst e; rw [if_pos rfl, if_pos rfl, if_pos h]
    · rw [if_neg (fun q => e q.symm), if_neg e]
  · rw [stepN_miss _ _ _ k (by simpa using h)]
    by_cases e : j = k
    · subst e; rw [if_pos rfl, if_neg h]
    · rw [if_neg e]
/-- what is behind is as it was -/
theorem stepN_far : ∀ k j, k ≤ j → k ≤ xs.length → nth (stepN os f xs k) j = nth xs j
  | 0, _, _, _ => rfl
  | k + 1, j, h, hk => by rw [stepN_next _ _ _ k j (by omega), if_neg (by omega), stepN_far k j (by omega) (by omega)]
/-- what is ahead stays as it is -/
theorem stepN_near (k : Nat) (hk : k ≤ xs.length) : ∀ m j, j < k → k + m ≤ xs.length → nth (stepN os f xs (k + m)) j = nth (stepN os f xs k) j
  | 0, _, _, _ => rfl
  | m + 1, j, h, hm => by
    rw [show k + (m + 1) = (k + m) + 1 by omega, stepN_next _ _ _ (k + m) j (by omega), if_neg (by omega)]
    exact stepN_near k hk m j h (by omega)
theorem step_at (j : Nat) (hj : j < xs.length) : nth (doStep os f xs) j = if hasC os (nth xs j) = true then f (stepN os f xs j) j else nth xs j := by
  have e : doStep os f xs = stepN os f xs ((j + 1) + (xs.length - (j + 1))) := by unfold doStep; congr 1; omega
  rw [e, stepN_near _ _ _ (j + 1) (by omega) _ j (by omega) (by omega), stepN_next _ _ _ j j hj, if_pos rfl, stepN_far _ _ _ j j (Nat.le_refl _) (by omega)]
theorem stepN_done (k j : Nat) (hj : j < k) (hk : k ≤ xs.length) : nth (stepN os f xs k) j = nth (doStep os f xs) j := by
  have e : doStep os f xs = stepN os f xs (k + (xs.length - k)) := by unfold doStep; congr 1; omega
  rw [e, stepN_near _ _ _ k hk _ j hj (by omega)]
theorem stepN_all {P : Int → Prop} (h0 : ∀ x ∈ xs, P x) (hf : ∀ cs k, cs.length = xs.length → (∀ x ∈ cs, P x) → k < cs.length → hasC os (nth cs k) = true → P (f cs k)) : ∀ k, k ≤ xs.length → ∀ x ∈ stepN os f xs k, P x
  | 0, _ => h0
  | k + 1, hk => by
    have ih := stepN_all h0 hf k (by omega)
    by_cases h : hasC os (nth (stepN os f xs k) k) = true
    · rw [stepN_hit _ _ _ k h]
      intro x hx
      rcases List.mem_or_eq_of_mem_set hx with hx | rfl
      · exact ih x hx
      · exact hf _ _ (stepN_len _ _ _ _) ih (by rw [stepN_len]; omega) h
    · rw [stepN_miss _ _ _ k (by simpa using h)]; exact ih
theorem doStep_all {P : Int → Prop} (h0 : ∀ x ∈ xs, P x) (hf : ∀ cs k, cs.length = xs.length → (∀ x ∈ cs, P x) → k < cs.length → hasC os (nth cs k) = true → P (f cs k)) : ∀ x ∈ doStep os f xs, P x := stepN_all os f xs h0 hf _ (Nat.le_refl _)
/-- where nothing is that the step names, it leaves all as it is -/
theorem doStep_none (h : ∀ x ∈ xs, x ∉ os) : doStep os f xs = xs := by
  refine nth_eq_of _ _ (doStep_len _ _ _) fun j hj => ?_
  rw [doStep_len] at hj
  rw [step_at _ _ _ j hj, if_neg]
  rw [hasC_mem]
  exact nth_all h j hj
end
/-- the last one ahead that is among am, or the side -/
def lastA (am : List Int) (side : Int) (cs : List Int) : Nat → Int
  | 0 => side
  | k + 1 => if hasC am (nth cs k) = true then nth cs k else lastA am side cs k
theorem lastA_hit (am : List Int) (side : Int) (cs : List Int) (k : Nat) (h : hasC am (nth cs k) = true) : lastA am side cs (k + 1) = nth cs k := by show (if _ then _ else _) = _; rw [if_pos h]
theorem lastA_miss (am : List Int) (side : Int) (cs : List Int) (k : Nat) (h : hasC am (nth cs k) = false) : lastA am side cs (k + 1) = lastA am side cs k := by show (if _ then _ else _) = _; rw [if_neg (by rw [h]; simp)]
theorem lastA_congr (am : List Int) (side : Int) (a b : List Int) : ∀ k, (∀ j, j < k → nth a j = nth b j) → lastA am side a k = lastA am side b k
  | 0, _ => rfl
  | k + 1, h => by
    show (if _ then _ else _) = (if _ then _ else _)
    rw [h k (by omega), lastA_congr am side a b k fun j hj => h j (by omega)]
theorem lastA_in {P : Int → Prop} (am : List Int) (side : Int) (cs : List Int) (hs : P side) (hc : ∀ x ∈ am, P x) : ∀ k, P (lastA am side cs k)
  | 0 => hs
  | k + 1 => by
    show P (if _ then _ else _)
    split
    · rename_i h; exact hc _ ((hasC_mem _ _).1 h)
    · exact lastA_in am side cs hs hc k

def fMark (side : Int) (cs : List Int) (k : Nat) : Int := if 19 ≤ (if k = 0 then side else nth cs (k - 1)) ∧ (if k = 0 then side else nth cs (k - 1)) ≤ 22 then 13 else (if k = 0 then side else nth cs (k - 1))
def fNum (side : Int) (cs : List Int) (k : Nat) : Int := if lastA [0, 1, 2] side cs k = 2 then 6 else 3
def fLet (_ : List Int) (_ : Nat) : Int := 1
def hasAt (cs : List Int) (p c : Int) : Bool := decide (0 ≤ p ∧ p < cs.length ∧ nth cs p.toNat = c)
def betw (cs : List Int) (k : Nat) (c : Int) : Bool := hasAt cs ((k : Int) - 1) c && hasAt cs ((k : Int) + 1) c
def fSep (cs : List Int) (k : Nat) : Int := if betw cs k 3 = true then 3 else if nth cs k = 7 ∧ betw cs k 6 = true then 6 else nth cs k
/-- the end of the run of 5 that is at k -/
def runE (cs : List Int) : Nat → Nat → Nat
  | 0, k => k
  | n + 1, k => if hasAt cs k 5 = true then runE cs n (k + 1) else k
def endR (cs : List Int) (k : Nat) : Nat := runE cs (cs.length - k) k
def fTerm (cs : List Int) (k : Nat) : Int := if hasAt cs ((k : Int) - 1) 3 = true ∨ hasAt cs (endR cs k) 3 = true then 3 else 5
def fRest (_ : List Int) (_ : Nat) : Int := 13
def fSide (side : Int) (cs : List Int) (k : Nat) : Int := if lastA [0, 1] side cs k = 0 then 0 else 3
def fEnd (side : Int) (cs : List Int) (k : Nat) : Int := if nth cs k = 3 then fSide side cs k else 13

def marksW (xs : List Int) (side : Int) : List Int := doStep [8] (fMark side) xs
def numsW (xs : List Int) (side : Int) : List Int := doStep [2] fLet (doStep [3] (fNum side) xs)
def sepW (xs : List Int) : List Int := doStep [4, 7] fSep xs
def termW (xs : List Int) : List Int := doStep [5] fTerm xs
def signsW (xs : List Int) (side : Int) : List Int := doStep [3] (fSide side) (doStep [4, 5, 7] fRest (termW (sepW xs)))
def weakW (xs : List Int) (side : Int) : List Int := signsW (numsW (marksW xs side) side) side
theorem marksW_len (xs : List Int) (side : Int) : (marksW xs side).length = xs.length := doStep_len _ _ _
theorem numsW_len (xs : List Int) (side : Int) : (numsW xs side).length = xs.length := by unfold numsW; rw [doStep_len, doStep_len]
theorem signsW_len (xs : List Int) (side : Int) : (signsW xs side).length = xs.length := by unfold signsW termW sepW; rw [doStep_len, doStep_len, doStep_len, doStep_len]
theorem weakW_len (xs : List Int) (side : Int) : (weakW xs side).length = xs.length := by unfold weakW; rw [signsW_len, numsW_len, marksW_len]

/-- the code of a list of classes and a side -/
def clsB (x : Int) : Bool := decide (0 ≤ x ∧ x ≤ 22)
def classF (xs : List Int) (side : Int) : Int := if 600 < xs.length then 2 else if xs.all clsB = true then (if 0 ≤ side ∧ side ≤ 1 then 0 else 1) else 3
theorem classF_zero {xs : List Int} {side : Int} (h : classF xs side = 0) : xs.length ≤ 600 ∧ (∀ x ∈ xs, 0 ≤ x ∧ x ≤ 22) ∧ (0 ≤ side ∧ side ≤ 1) := by
  unfold classF at h
  by_cases h1 : 600 < xs.length
  · rw [if_pos h1] at h; omega
  · rw [if_neg h1] at h
    by_cases h2 : xs.all clsB = true
    · rw [if_pos h2] at h
      by_cases h3 : 0 ≤ side ∧ side ≤ 1
      · exact ⟨by omega, fun x hx => by have := List.all_eq_true.1 h2 x hx; simpa [clsB] using this, h3⟩
      · rw [if_neg h3] at h; omega
    · rw [if_neg h2] at h; omega
theorem classF_yes {xs : List Int} {side : Int} (h1 : xs.length ≤ 600) (h2 : ∀ x ∈ xs, 0 ≤ x ∧ x ≤ 22) (h3 : 0 ≤ side ∧ side ≤ 1) : classF xs side = 0 := by
  unfold classF
  rw [if_neg (by omega), if_pos (List.all_eq_true.2 fun x hx => by simpa [clsB] using h2 x hx), if_pos h3]
/-- what is answered -/
def marksV (xs : List Int) (s : Int) : List Int := if classF xs s = 0 then marksW xs s else []
def numsV (xs : List Int) (s : Int) : List Int := if classF xs s = 0 then numsW xs s else []
def signsV (xs : List Int) (s : Int) : List Int := if classF xs s = 0 then signsW xs s else []
def weakV (xs : List Int) (s : Int) : List Int := if classF xs s = 0 then weakW xs s else []

/-- the end of a run -/
theorem runE_le (cs : List Int) : ∀ n k, k ≤ runE cs n k ∧ runE cs n k ≤ k + n
  | 0, k => ⟨Nat.le_refl _, Nat.le_refl _⟩
  | n + 1, k => by
    show k ≤ (if _ then _ else _) ∧ (if _ then _ else _) ≤ _
    split
    · have := runE_le cs n (k + 1); omega
    · omega
theorem runE_in (cs : List Int) : ∀ n k j, k ≤ j → j < runE cs n k → hasAt cs j 5 = true
  | 0, k, j, h1, h2 => by have : runE cs 0 k = k := rfl; omega
  | n + 1, k, j, h1, h2 => by
    have e : runE cs (n + 1) k = if hasAt cs k 5 = true then runE cs n (k + 1) else k := rfl
    rw [e] at h2
    by_cases h : hasAt cs k 5 = true
    · rw [if_pos h] at h2
      by_cases hj : j = k
      · subst hj; exact h
      · exact runE_in cs n (k + 1) j (by omega) h2
    · rw [if_neg h] at h2; omega
theorem runE_out (cs : List Int) : ∀ n k, runE cs n k < k + n → hasAt cs (runE cs n k : Nat) 5 = false
  | 0, k, h => by have : runE cs 0 k = k := rfl; omega
  | n + 1, k, h => by
    have e : runE cs (n + 1) k = if hasAt cs k 5 = true then runE cs n (k + 1) else k := rfl
    rw [e] at h ⊢
    by_cases hh : hasAt cs k 5 = true
    · rw [if_pos hh] at h ⊢; exact runE_out cs n (k + 1) (by omega)
    · rw [if_neg hh]; simpa using hh
theorem hasAt_nat (cs : List Int) (k : Nat) (c : Int) : hasAt cs k c = decide (k < cs.length ∧ nth cs k = c) := by
  unfold hasAt
  congr 1
  simp
theorem hasAt_pre (cs : List Int) (k : Nat) (c : Int) : hasAt cs ((k : Int) - 1) c = decide (0 < k ∧ k - 1 < cs.length ∧ nth cs (k - 1) = c) := by
  unfold hasAt
  have e : ((k : Int) - 1).toNat = k - 1 := by omega
  rw [e]
  congr 1
  simp only [eq_iff_iff]
  constructor
  · rintro ⟨h1, h2, h3⟩; exact ⟨by omega, by omega, h3⟩
  · rintro ⟨h1, h2, h3⟩; exact ⟨by omega, by omega, h3⟩
theorem hasAt_nxt (cs : List Int) (k : Nat) (c : Int) : hasAt cs ((k : Int) + 1) c = decide (k + 1 < cs.length ∧ nth cs (k + 1) = c) := by
  have := hasAt_nat cs (k + 1) c
  rw [← this]; simp
theorem endR_out (cs : List Int) (k : Nat) : hasAt cs (endR cs k : Nat) 5 = false := by
  have h := runE_le cs (cs.length - k) k
  by_cases hk : runE cs (cs.length - k) k < k + (cs.length - k)
  · exact runE_out cs _ _ hk
  · show hasAt cs (runE cs (cs.length - k) k : Nat) 5 = false
    rw [hasAt_nat]
    simp; omega
theorem endR_in (cs : List Int) (k j : Nat) (h1 : k ≤ j) (h2 : j < endR cs k) : hasAt cs j 5 = true := runE_in cs _ _ j h1 h2
theorem endR_le (cs : List Int) (k : Nat) : k ≤ endR cs k := (runE_le cs _ _).1
theorem endR_len (cs : List Int) (k : Nat) (h : k ≤ cs.length) : endR cs k ≤ cs.length := by have := (runE_le cs (cs.length - k) k).2; unfold endR; omega
/-- the end, by what is in the run and what is behind -/
theorem endR_eq (cs : List Int) (k e : Nat) (h1 : k ≤ e) (h2 : ∀ j, k ≤ j → j < e → hasAt cs j 5 = true) (h3 : hasAt cs e 5 = false) : endR cs k = e := by
  have a := endR_le cs k
  have b := endR_out cs k
  by_cases h : endR cs k < e
  · rw [h2 _ a h] at b; cases b
  · by_cases h' : e < endR cs k
    · rw [endR_in cs k e h1 h'] at h3; cases h3
    · omega
end Go.Proofs.YtcfnhjpmihngdaaGreat
