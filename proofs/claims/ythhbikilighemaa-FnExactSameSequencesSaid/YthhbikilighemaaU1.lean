/- A text as a string: what a range over it meets. -/
import Derived.Test.YthhbikilighemaaE1
import Derived.Lib.TrimUEq
import Derived.Lib.OthersKept
import Derived.Laws.BytesString
import Derived.Laws.IdiomStrings
namespace Go.Proofs.Ythhbikilighemaa
open Go.RowKit

def toU8 (z : Int) : UInt8 := UInt8.ofNat z.toNat
theorem toU8_nat (n : Nat) (h : n < 256) : (toU8 (n : Int)).toNat = n := by
  unfold toU8
  rw [UInt8.toNat_ofNat']
  simp
  omega
/-- bytes as a string -/
def bstr (bs : List Int) : ByteArray := ⟨(bs.map toU8).toArray⟩
theorem bstr_list (bs : List Int) : (bstr bs).data.toList = bs.map toU8 := by simp [bstr]
theorem bstr_size (bs : List Int) : (bstr bs).size = bs.length := by
  show (bstr bs).data.size = _
  simp [bstr]

theorem enc1_bytes (c : Int) (hc : chrB c = true) : ∀ b ∈ enc1 c, 0 ≤ b ∧ b < 256 := by
  simp only [chrB, decide_eq_true_eq] at hc
  unfold enc1
  split
  · simp; omega
  · split
    · simp; omega
    · split
      · simp; omega
      · simp; omega
theorem encs_bytes (zs : List Int) (hz : zs.all chrB = true) : ∀ b ∈ encs zs, 0 ≤ b ∧ b < 256 := by
  intro b hb
  simp only [encs, List.mem_flatMap] at hb
  obtain ⟨z, h1, h2⟩ := hb
  exact enc1_bytes z (List.all_eq_true.1 hz z h1) b h2

set_option maxRecDepth 100000 in
set_option maxHeartbeats 1000000 in
theorem decodeL_enc (c : Int) (hc : chrB c = true) (rest : List UInt8) : Lib.decodeL ((enc1 c).map toU8 ++ rest) = (c.toNat, (enc1 c).length) := by
  simp only [chrB, decide_eq_true_eq] at hc
  obtain ⟨n, rfl⟩ : ∃ n : Nat, c = (n : Int) := ⟨c.toNat, by omega⟩
  rw [Lib.decodeL_N]
  unfold enc1
  by_cases c1 : (n : Int) < 128
  · rw [if_pos c1]
    simp only [List.map_cons, List.map_nil, List.cons_append, List.nil_append, List.getD_cons_zero, List.length_cons, List.length_nil]
    rw [toU8_nat n (by omega)]
    unfold Lib.decodeN
    rw [if_pos (by omega)]
    simp
  · rw [if_neg c1]
    by_cases c2 : (n : Int) < 2048
    · rw [if_pos c2]
      have e0 : 192 + (n : Int) / 64 = ((192 + n / 64 : Nat) : Int) := by omega
      have e1 : 128 + (n : Int) % 64 = ((128 + n % 64 : Nat) : Int) := by omega
      rw [e0, e1]
      simp only [List.map_cons, List.map_nil, List.cons_append, List.nil_append, List.getD_cons_zero, List.getD_cons_succ, List.length_cons, List.length_nil]
      rw [toU8_nat _ (by omega), toU8_nat _ (by omega)]
      unfold Lib.decodeN
      rw [if_neg (by omega), if_pos ⟨by omega, by omega, by omega⟩, if_pos (by omega)]
      apply Prod.ext <;> simp only <;> omega
    · rw [if_neg c2]
      by_cases c3 : (n : Int) < 65536
      · rw [if_pos c3]
        have e0 : 224 + (n : Int) / 4096 = ((224 + n / 4096 : Nat) : Int) := by omega
        have e1 : 128 + (n : Int) / 64 % 64 = ((128 + n / 64 % 64 : Nat) : Int) := by omega
        have e2 : 128 + (n : Int) % 64 = ((128 + n % 64 : Nat) : Int) := by omega
        rw [e0, e1, e2]
        simp only [List.map_cons, List.map_nil, List.cons_append, List.nil_append, List.getD_cons_zero, List.getD_cons_succ, List.length_cons, List.length_nil]
        rw [toU8_nat _ (by omega), toU8_nat _ (by omega), toU8_nat _ (by omega)]
        unfold Lib.decodeN
        rw [if_neg (by omega), if_neg (by omega), if_pos ⟨by omega, ⟨by omega, by omega⟩, by omega, by omega⟩, if_pos ⟨by omega, by omega⟩]
        apply Prod.ext <;> simp only <;> omega
      · rw [if_neg c3]
        have e0 : 240 + (n : Int) / 262144 = ((240 + n / 262144 : Nat) : Int) := by omega
        have e1 : 128 + (n : Int) / 4096 % 64 = ((128 + n / 4096 % 64 : Nat) : Int) := by omega
        have e2 : 128 + (n : Int) / 64 % 64 = ((128 + n / 64 % 64 : Nat) : Int) := by omega
        have e3 : 128 + (n : Int) % 64 = ((128 + n % 64 : Nat) : Int) := by omega
        rw [e0, e1, e2, e3]
        simp only [List.map_cons, List.map_nil, List.cons_append, List.nil_append, List.getD_cons_zero, List.getD_cons_succ, List.length_cons, List.length_nil]
        rw [toU8_nat _ (by omega), toU8_nat _ (by omega), toU8_nat _ (by omega), toU8_nat _ (by omega)]
        unfold Lib.decodeN
        rw [if_neg (by omega), if_neg (by omega), if_neg (by omega), if_pos ⟨by omega, ⟨by omega, by omega⟩, ⟨by omega, by omega⟩, by omega, by omega⟩, if_pos ⟨by omega, by omega⟩]
        apply Prod.ext <;> simp only <;> omega

/-- where the k-th character's bytes begin -/
def encAt (zs : List Int) (k : Nat) : Nat := (encs (zs.take k)).length
theorem encAt_zero (zs : List Int) : encAt zs 0 = 0 := by simp [encAt, encs]
theorem encAt_step (zs : List Int) (k : Nat) (h : k < zs.length) : encAt zs (k + 1) = encAt zs k + (enc1 (nth zs k)).length := by
  unfold encAt; rw [encs_step zs k h, List.length_append]
theorem encs_split (zs : List Int) (k : Nat) (h : k < zs.length) : encs zs = encs (zs.take k) ++ (enc1 (nth zs k) ++ encs (zs.drop (k + 1))) := by
  have e : zs = zs.take k ++ (nth zs k :: zs.drop (k + 1)) := by rw [← drop_nth zs k h, List.take_append_drop]
  have : encs zs = encs (zs.take k ++ (nth zs k :: zs.drop (k + 1))) := by rw [← e]
  rw [this]; simp [encs]
theorem encAt_lt (zs : List Int) (k : Nat) (h : k < zs.length) : encAt zs k < (encs zs).length := by
  rw [encs_split zs k h]
  have := enc1_pos (nth zs k)
  simp [encAt]
  omega
theorem encAt_end (zs : List Int) (k : Nat) (h : zs.length ≤ k) : encAt zs k = (encs zs).length := by unfold encAt; rw [List.take_of_length_le h]
theorem encAt_le (zs : List Int) (k : Nat) : encAt zs k ≤ (encs zs).length := by
  by_cases h : k < zs.length
  · exact Nat.le_of_lt (encAt_lt zs k h)
  · rw [encAt_end zs k (by omega)]; exact Nat.le_refl _

theorem chr_nth (zs : List Int) (hz : zs.all chrB = true) (k : Nat) (h : k < zs.length) : chrB (nth zs k) = true :=
  List.all_eq_true.1 hz _ (by simp [nth, List.getElem?_eq_getElem h])

/-- what stands at the k-th character -/
theorem decode_encAt (zs : List Int) (hz : zs.all chrB = true) (k : Nat) (h : k < zs.length) :
    Utf8.decode (bstr (encs zs)) (encAt zs k) = ((nth zs k).toNat, (enc1 (nth zs k)).length) := by
  rw [← Lib.decodeL_drop, bstr_list]
  have e : ((encs zs).map toU8).drop (encAt zs k) = (enc1 (nth zs k)).map toU8 ++ (encs (zs.drop (k + 1))).map toU8 := by
    rw [encs_split zs k h, List.map_append, List.map_append]
    unfold encAt
    rw [List.drop_append_of_le_length (by simp)]
    simp
  rw [e, decodeL_enc _ (chr_nth zs hz k h)]

/-- a step of a range over the string of a text -/
theorem next_text {P : Program} (w : World) (g : Nat) (zs : List Int) (hz : zs.all chrB = true) (k : Nat) (h : k < zs.length) (ty : TypeId) (hk : w.heap[g]? = some (.stringIter (bstr (encs zs)) (encAt zs k))) :
    (Instr.next (.pointer (some ⟨g, 0, none⟩)) true ty).run P w =
      .ok (.tuple #[.bool true, .int .i64 (encAt zs k), .int .i32 (nth zs k)]) (w.iterAt g (bstr (encs zs)) (encAt zs (k + 1))) := by
  rw [Lib.run_next_any_at w g (bstr (encs zs)) (encAt zs k) ty hk (by rw [bstr_size]; exact encAt_lt zs k h), decode_encAt zs hz k h, encAt_step zs k h]
  have hc := chr_nth zs hz k h
  simp only [chrB, decide_eq_true_eq] at hc
  have : ((nth zs k).toNat : Int) = nth zs k := by omega
  simp only [this]
theorem next_end {P : Program} (w : World) (g : Nat) (zs : List Int) (k : Nat) (h : zs.length ≤ k) (ty : TypeId) (hk : w.heap[g]? = some (.stringIter (bstr (encs zs)) (encAt zs k))) :
    (Instr.next (.pointer (some ⟨g, 0, none⟩)) true ty).run P w = .ok (.tuple #[.bool false]) w :=
  Lib.run_next_end_at w g (bstr (encs zs)) (encAt zs k) ty hk (by rw [bstr_size, encAt_end zs k h]; omega)

/-- 'string(bytes)' -/
theorem run_bstr {P : Program} (w : World) (src dst e : TypeId) (A : Option Addr) (c : Nat) (bs : List Int) (hs : P.underlying src = some (.slice e)) (he : P.underlying e = some (.int .u8)) (hd : P.underlying dst = some .string)
    (B : Nat) (hr : Rd w B A (nums .u8 bs)) (hb : ∀ b ∈ bs, 0 ≤ b ∧ b < 256) : (convert src dst (.slice A bs.length c)).run P w = .ok (.string (bstr bs)) w := by
  match A, hr with
  | none, hr =>
    have h0 : bs = [] := by
      cases bs with
      | nil => rfl
      | cons b bs =>
        obtain ⟨_, _, e', _⟩ := hr 0 (.int .u8 b) rfl
        cases e'
    subst h0
    rw [run_convert_bytes_string w src dst e none _ c hs he hd]
    rfl
  | some a, hr =>
    have hl : (bs.map toU8).length = bs.length := by simp
    have := run_convert_bytes_back (P := P) w src dst e a c (bs.map toU8) hs he hd (fun j hj => by
      have hj' : j < bs.length := by simpa using hj
      rw [hr.cells j _ (nums_get .u8 bs j hj')]
      have hb' := hb _ (List.getElem_mem hj')
      obtain ⟨n, hn⟩ : ∃ n : Nat, bs[j] = (n : Int) := ⟨bs[j].toNat, by omega⟩
      simp only [List.getElem_map, nth, List.getElem?_eq_getElem hj', Option.getD_some, hn]
      rw [toU8_nat n (by omega)])
    rw [hl] at this
    exact this
end Go.Proofs.Ythhbikilighemaa
