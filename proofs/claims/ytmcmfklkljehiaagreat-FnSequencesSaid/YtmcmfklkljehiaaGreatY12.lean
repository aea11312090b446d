/- A text as a string: what a range over it meets. -/
import Derived.Test.YtmcmfklkljehiaaGreatRows
import Derived.Test.YtmcmfklkljehiaaGreatY01
import Derived.RangeFuncNested
import Derived.RangeFuncBound
import Derived.RangeFuncBox
import Derived.RangeFuncCalls
import Derived.RangeFuncLeaves
import Derived.Shelf.Abstract
import Derived.Shelf.RegionOpen
import Derived.OwnWalkIn
import Derived.TacticsInMore
import Derived.LoopNIn
import Derived.LoopIn
import Derived.Test.YtmcmfklkljehiaaGreatY04
import Derived.Lib.TrimUEq
import Derived.Lib.OthersKept
import Derived.Laws.BytesString
import Derived.Laws.IdiomStrings
namespace Go.Proofs.YtmcmfklkljehiaaGreat
open Go.RowKit Go.Shelf
attribute [local go_sem] Oper.semAt_some

/-- the places from the last one on, j of m -/
def dn (m j : Nat) : List Nat := (List.range j).map fun i => m - 1 - i
theorem dn_succ (m j : Nat) : dn m (j + 1) = dn m j ++ [m - 1 - j] := by simp [dn, List.range_succ]
theorem dn_len (m j : Nat) : (dn m j).length = j := by simp [dn]

set_option maxRecDepth 100000 in
set_option maxHeartbeats 2000000 in
theorem back1_in (n : Nat) (hn : 1 ≤ n) (l Bs n₀ b off C : Nat) (zs : List Int) (hl : zs.length ≤ 1000000) (hb : b < n₀) (hbs : Bs < n₀) (J Jx : List Nat → World → Prop)
    (hY : ∀ pre (x : Nat) W, J pre W → pre.length < zs.length → YieldAt Fence.wide (n - 1) Tryz.prog l #[.int .i64 (x : Int), .int .i64 (nth zs x)] W fun e W' =>
      (e = .returned (.bool true) ∧ J (pre ++ [x]) W' ∧ Below n₀ W W') ∨ (e = .returned (.bool false) ∧ Jx (pre ++ [x]) W'))
    (W : World) (hBs : W.cell? ⟨Bs, 0, none⟩ = some (.slice (some ⟨b, off, none⟩) zs.length C)) (hr : Rd W n₀ (some ⟨b, off, none⟩) (nums .i64 zs)) (h0 : J [] W) :
    CallsIn Fence.wide n Tryz.prog 97 #[.func (.yield l) #[] #[], .pointer (some ⟨Bs, 0, none⟩)] W fun e W' => (∃ v, e = .returned v) ∧
      ((∃ ys, ys = dn zs.length zs.length ∧ J ys W') ∨ (∃ pre, (∃ j, j ≤ zs.length ∧ pre = dn zs.length j) ∧ Jx pre W')) := by
  have HR := Lib.hid hr
  have HB := Lib.hid hBs
  obtain ⟨m, hm⟩ : ∃ m, Hid (m = zs.length) := ⟨_, Lib.hid rfl⟩
  rw [← hm.out] at hl hY hBs HB ⊢
  clear hr
  refine callsIn_of_wp Tryz.func97 rfl trivial ?_ rfl
  simp only [Tryz.ntmps97, List.size_toArray, List.length_cons, List.length_nil, Nat.reduceAdd, Nat.reduceSub, Array.replicate_succ, Array.replicate_zero, List.push_toArray, List.append_toArray, List.nil_append, List.cons_append]
  gi_wp2
  gi_loopw [3] (fun i wr => ∃ j : Nat, j ≤ m ∧ i = .int .i64 ((m : Int) - 1 - j) ∧ J (dn m j) wr ∧ Below n₀ W wr) (fun i _ => (intOf i + 1).toNat)
  case atStart => exact ⟨0, Nat.zero_le _, by simp, h0, Below.refl _ _⟩
  case round =>
    obtain ⟨j, hj, rfl, hJs, hnx⟩ := hrel
    by_cases hlt : j < m
    · have hc0 := ((HR.out.keep fun p hp => hnx.cell (p := p) hp).int (by rw [← hm.out]; omega))
      obtain ⟨b', off', e1, _, hc⟩ := hc0
      cases e1
      have ei : ((m : Int) - 1 - (j : Int)) = ((m - 1 - j : Nat) : Int) := by omega
      have hcx := hc (m - 1 - j) (by rw [← hm.out]; omega)
      obtain ⟨fn, tmps, assign, body, hy, hR⟩ := hY _ (m - 1 - j) wr hJs (by rw [dn_len]; exact hlt)
      have hbx : wr.cell? ⟨Bs, 0, none⟩ = some (.slice (some ⟨b, off, none⟩) m C) := (hnx.cell (p := ⟨Bs, 0, none⟩) hbs).trans HB.out
      rw [ei]
      have hD := Lib.hid (dn_succ m j)
      obtain ⟨x, hx⟩ : ∃ x, Hid (x = m - 1 - j) := ⟨_, Lib.hid rfl⟩
      rw [← hx.out] at hcx hy hR ei hD ⊢
      have hxm : x < m := by have := hx.out; omega
      clear hc
      gi_wp2
      refine hR.mono ?_
      rintro e W3 (⟨rfl, hJ3, hk3⟩ | ⟨rfl, hJx3⟩)
      · gi_wp2
        go_roundw
        case rel => exact ⟨j + 1, by omega, by have := hx.out; first | (congr 1; done) | (congr 1; omega), by rw [hD.out]; exact hJ3, hnx.trans hk3⟩
        case measure => have := hx.out; first | (simp [intOf]; done) | (simp [intOf]; omega)
      · gi_wp2
        refine bodyPost_ret (results_none rfl _ _ _) rfl ?_
        exact ⟨⟨_, rfl⟩, .inr ⟨_, ⟨j + 1, by omega, hD.out.symm⟩, hJx3⟩⟩
    · obtain rfl : j = m := by omega
      have ei : ((j : Int) - 1 - (j : Int)) = -1 := by omega
      rw [ei]
      gi_wp2
      go_end0
      exact ⟨⟨_, rfl⟩, .inl ⟨_, rfl, hJs⟩⟩

set_option maxRecDepth 100000 in
set_option maxHeartbeats 1000000 in
theorem back1_nil (n : Nat) (l Bs C : Nat) (A : Option Addr) (J : List Nat → World → Prop) (W : World) (hBs : W.cell? ⟨Bs, 0, none⟩ = some (.slice A 0 C)) (h0 : J [] W) :
    CallsIn Fence.wide n Tryz.prog 97 #[.func (.yield l) #[] #[], .pointer (some ⟨Bs, 0, none⟩)] W fun e W' => (∃ v, e = .returned v) ∧ J [] W' := by
  refine callsIn_of_wp Tryz.func97 rfl trivial ?_ rfl
  simp only [Tryz.ntmps97, List.size_toArray, List.length_cons, List.length_nil, Nat.reduceAdd, Nat.reduceSub, Array.replicate_succ, Array.replicate_zero, List.push_toArray, List.append_toArray, List.nil_append, List.cons_append]
  gi_wp2
  gi_loopw [3] (fun i wr => i = .int .i64 (-1) ∧ wr = W) (fun _ _ => 0)
  case atStart => exact ⟨rfl, rfl⟩
  case round =>
    obtain ⟨rfl, rfl⟩ := hrel
    gi_wp2
    go_end0
    exact ⟨⟨_, rfl⟩, h0⟩

theorem back_stops (n : Nat) (hn : 1 ≤ n) (Bs n₀ C : Nat) (A : Option Addr) (zs : List Int) (hl : zs.length ≤ 1000000) (w : World) (hBs' : Bs < n₀) (hn₀ : n₀ ≤ w.heap.size)
    (hBs : w.cell? ⟨Bs, 0, none⟩ = some (.slice A zs.length C)) (hr : Rd w n₀ A (nums .i64 zs)) :
    SeqStopsK Fence.wide n Tryz.prog 97 #[.pointer (some ⟨Bs, 0, none⟩)] (fun x : Nat => #[Value.int .i64 (x : Int), Value.int .i64 (nth zs x)]) (Below n₀) (fun ys => ys = dn zs.length zs.length) (fun pre => ∃ j, j ≤ zs.length ∧ pre = dn zs.length j) zs.length w := by
  intro l J Jx W hW _ _ hY h0
  have hBs2 := (hW.cell (p := ⟨Bs, 0, none⟩) (show Bs < w.heap.size by omega)).trans hBs
  by_cases hz : 0 < zs.length
  · obtain ⟨b, off, rfl, hb, _⟩ := hr.int hz
    exact back1_in n hn l Bs n₀ b off C zs hl hb hBs' J Jx hY W hBs2 (hr.below hW hn₀) h0
  · obtain rfl : zs = [] := List.eq_nil_of_length_eq_zero (by omega)
    exact (back1_nil n l Bs C A J W hBs2 h0).mono fun e W' ⟨he, hj⟩ => ⟨he, .inl ⟨_, rfl, hj⟩⟩

set_option maxRecDepth 100000 in
set_option maxHeartbeats 1000000 in
theorem backward_any (A : Option Addr) (m c : Nat) (w : World) :
    Calls Tryz.prog 81 #[.slice A m c] w fun e w' => e = .returned (.func (.func 97) #[] #[.pointer (some ⟨w.heap.size, 0, none⟩)]) ∧ w' = w.alloc (.cells #[.slice A m c] 24) := by
  go_enter Tryz.func81, Tryz.ntmps81
  go_wp2
  go_ret
  exact ⟨rfl, rfl⟩
end Go.Proofs.YtmcmfklkljehiaaGreat

namespace Go.Proofs.YtmcmfklkljehiaaGreat
open Go.RowKit

def toU8 (z : Int) : UInt8 := UInt8.ofNat z.toNat
theorem toU8_nat (n : Nat) (h : n < 256) : (toU8 (n : Int)).toNat = n := by
  unfold toU8
  rw [UInt8.toNat_ofNat']
  simp
  omega
/-- bytes as a string -/
def bstr (bs : List Int) : ByteArray := ⟨(bs.map toU8).toArray⟩
theorem bstr_list (bs : List Int) : (bstr bs).data.toList = bs.map toU8 := by simp [bstr]
theorem bstr_size (bs : List Int) : (bstr bs).size = bs.length := by
  show (bstr bs).data.size = _
  simp [bstr]

theorem enc1_bytes (c : Int) (hc : chrB c = true) : ∀ b ∈ enc1 c, 0 ≤ b ∧ b < 256 := by
  simp only [chrB, decide_eq_true_eq] at hc
  unfold enc1
  split
  · simp; omega
  · split
    · simp; omega
    · split
      · simp; omega
      · simp; omega
theorem encs_bytes (zs : List Int) (hz : zs.all chrB = true) : ∀ b ∈ encs zs, 0 ≤ b ∧ b < 256 := by
  intro b hb
  simp only [encs, List.mem_flatMap] at hb
  obtain ⟨z, h1, h2⟩ := hb
  exact enc1_bytes z (List.all_eq_true.1 hz z h1) b h2

set_option maxRecDepth 100000 in
set_option maxHeartbeats 1000000 in
theorem decodeL_enc (c : Int) (hc : chrB c = true) (rest : List UInt8) : Lib.decodeL ((enc1 c).map toU8 ++ rest) = (c.toNat, (enc1 c).length) := by
  simp only [chrB, decide_eq_true_eq] at hc
  obtain ⟨n, rfl⟩ : ∃ n : Nat, c = (n : Int) := ⟨c.toNat, by omega⟩
  rw [Lib.decodeL_N]
  unfold enc1
  by_cases c1 : (n : Int) < 128
  · rw [if_pos c1]
    simp only [List.map_cons, List.map_nil, List.cons_append, List.nil_append, List.getD_cons_zero, List.length_cons, List.length_nil]
    rw [toU8_nat n (by omega)]
    unfold Lib.decodeN
    rw [if_pos (by omega)]
    simp
  · rw [if_neg c1]
    by_cases c2 : (n : Int) < 2048
    · rw [if_pos c2]
      have e0 : 192 + (n : Int) / 64 = ((192 + n / 64 : Nat) : Int) := by omega
      have e1 : 128 + (n : Int) % 64 = ((128 + n % 64 : Nat) : Int) := by omega
      rw [e0, e1]
      simp only [List.map_cons, List.map_nil, List.cons_append, List.nil_append, List.getD_cons_zero, List.getD_cons_succ, List.length_cons, List.length_nil]
      rw [toU8_nat _ (by omega), toU8_nat _ (by omega)]
      unfold Lib.decodeN
      rw [if_neg (by omega), if_pos ⟨by omega, by omega, by omega⟩, if_pos (by omega)]
      apply Prod.ext <;> simp only <;> omega
    · rw [if_neg c2]
      by_cases c3 : (n : Int) < 65536
      · rw [if_pos c3]
        have e0 : 224 + (n : Int) / 4096 = ((224 + n / 4096 : Nat) : Int) := by omega
        have e1 : 128 + (n : Int) / 64 % 64 = ((128 + n / 64 % 64 : Nat) : Int) := by omega
        have e2 : 128 + (n : Int) % 64 = ((128 + n % 64 : Nat) : Int) := by omega
        rw [e0, e1, e2]
        simp only [List.map_cons, List.map_nil, List.cons_append, List.nil_append, List.getD_cons_zero, List.getD_cons_succ, List.length_cons, List.length_nil]
        rw [toU8_nat _ (by omega), toU8_nat _ (by omega), toU8_nat _ (by omega)]
        unfold Lib.decodeN
        rw [if_neg (by omega), if_neg (by omega), if_pos ⟨by omega, ⟨by omega, by omega⟩, by omega, by omega⟩, if_pos ⟨by omega, by omega⟩]
        apply Prod.ext <;> simp only <;> omega
      · rw [if_neg c3]
        have e0 : 240 + (n : Int) / 262144 = ((240 + n / 262144 : Nat) : Int) := by omega
        have e1 : 128 + (n : Int) / 4096 % 64 = ((128 + n / 4096 % 64 : Nat) : Int) := by omega
        have e2 : 128 + (n : Int) / 64 % 64 = ((128 + n / 64 % 64 : Nat) : Int) := by omega
        have e3 : 128 + (n : Int) % 64 = ((128 + n % 64 : Nat) : Int) := by omega
        rw [e0, e1, e2, e3]
        simp only [List.map_cons, List.map_nil, List.cons_append, List.nil_append, List.getD_cons_zero, List.getD_cons_succ, List.length_cons, List.length_nil]
        rw [toU8_nat _ (by omega), toU8_nat _ (by omega), toU8_nat _ (by omega), toU8_nat _ (by omega)]
        unfold Lib.decodeN
        rw [if_neg (by omega), if_neg (by omega), if_neg (by omega), if_pos ⟨by omega, ⟨by omega, by omega⟩, ⟨by omega, by omega⟩, by omega, by omega⟩, if_pos ⟨by omega, by omega⟩]
        apply Prod.ext <;> simp only <;> omega

/-- where the k-th character's bytes begin -/
def encAt (zs : List Int) (k : Nat) : Nat := (encs (zs.take k)).length
theorem encAt_zero (zs : List Int) : encAt zs 0 = 0 := by simp [encAt, encs]
theorem encAt_step (zs : List Int) (k : Nat) (h : k < zs.length) : encAt zs (k + 1) = encAt zs k + (enc1 (nth zs k)).length := by
  unfold encAt; rw [encs_step zs k h, List.length_append]
theorem encs_split (zs : List Int) (k : Nat) (h : k < zs.length) : encs zs = encs (zs.take k) ++ (enc1 (nth zs k) ++ encs (zs.drop (k + 1))) := by
  have e : zs = zs.take k ++ (nth zs k :: zs.drop (k + 1)) := by rw [← drop_nth zs k h, List.take_append_drop]
  have : encs zs = encs (zs.take k ++ (nth zs k :: zs.drop (k + 1))) := by rw [← e]
  rw [this]; simp [encs]
theorem encAt_lt (zs : List Int) (k : Nat) (h : k < zs.length) : encAt zs k < (encs zs).length := by
  rw [encs_split zs k h]
  have := enc1_pos (nth zs k)
  simp [encAt]
  omega
theorem encAt_end (zs : List Int) (k : Nat) (h : zs.length ≤ k) : encAt zs k = (encs zs).length := by unfold encAt; rw [List.take_of_length_le h]
theorem encAt_le (zs : List Int) (k : Nat) : encAt zs k ≤ (encs zs).length := by
  by_cases h : k < zs.length
  · exact Nat.le_of_lt (encAt_lt zs k h)
  · rw [encAt_end zs k (by omega)]; exact Nat.le_refl _

theorem chr_nth (zs : List Int) (hz : zs.all chrB = true) (k : Nat) (h : k < zs.length) : chrB (nth zs k) = true :=
  List.all_eq_true.1 hz _ (by simp [nth, List.getElem?_eq_getElem h])

/-- what stands at the k-th character -/
theorem decode_encAt (zs : List Int) (hz : zs.all chrB = true) (k : Nat) (h : k < zs.length) :
    Utf8.decode (bstr (encs zs)) (encAt zs k) = ((nth zs k).toNat, (enc1 (nth zs k)).length) := by
  rw [← Lib.decodeL_drop, bstr_list]
  have e : ((encs zs).map toU8).drop (encAt zs k) = (enc1 (nth zs k)).map toU8 ++ (encs (zs.drop (k + 1))).map toU8 := by
    rw [encs_split zs k h, List.map_append, List.map_append]
    unfold encAt
    rw [List.drop_append_of_le_length (by simp)]
    simp
  rw [e, decodeL_enc _ (chr_nth zs hz k h)]

/-- a step of a range over the string of a text -/
theorem next_text {P : Program} (w : World) (g : Nat) (zs : List Int) (hz : zs.all chrB = true) (k : Nat) (h : k < zs.length) (ty : TypeId) (hk : w.heap[g]? = some (.stringIter (bstr (encs zs)) (encAt zs k))) :
    (Instr.next (.pointer (some ⟨g, 0, none⟩)) true ty).run P w =
      .ok (.tuple #[.bool true, .int .i64 (encAt zs k), .int .i32 (nth zs k)]) (w.iterAt g (bstr (encs zs)) (encAt zs (k + 1))) := by
  rw [Lib.run_next_any_at w g (bstr (encs zs)) (encAt zs k) ty hk (by rw [bstr_size]; exact encAt_lt zs k h), decode_encAt zs hz k h, encAt_step zs k h]
  have hc := chr_nth zs hz k h
  simp only [chrB, decide_eq_true_eq] at hc
  have : ((nth zs k).toNat : Int) = nth zs k := by omega
  simp only [this]
theorem next_end {P : Program} (w : World) (g : Nat) (zs : List Int) (k : Nat) (h : zs.length ≤ k) (ty : TypeId) (hk : w.heap[g]? = some (.stringIter (bstr (encs zs)) (encAt zs k))) :
    (Instr.next (.pointer (some ⟨g, 0, none⟩)) true ty).run P w = .ok (.tuple #[.bool false]) w :=
  Lib.run_next_end_at w g (bstr (encs zs)) (encAt zs k) ty hk (by rw [bstr_size, encAt_end zs k h]; omega)

/-- 'string(bytes)' -/
theorem run_bstr {P : Program} (w : World) (src dst e : TypeId) (A : Option Addr) (c : Nat) (bs : List Int) (hs : P.underlying src = some (.slice e)) (he : P.underlying e = some (.int .u8)) (hd : P.underlying dst = some .string)
    (B : Nat) (hr : Rd w B A (nums .u8 bs)) (hb : ∀ b ∈ bs, 0 ≤ b ∧ b < 256) : (convert src dst (.slice A bs.length c)).run P w = .ok (.string (bstr bs)) w := by
  match A, hr with
  | none, hr =>
    have h0 : bs = [] := by
      cases bs with
      | nil => rfl
      | cons b bs =>
        obtain ⟨_, _, e', _⟩ := hr 0 (.int .u8 b) rfl
        cases e'
    subst h0
    rw [run_convert_bytes_string w src dst e none _ c hs he hd]
    rfl
  | some a, hr =>
    have hl : (bs.map toU8).length = bs.length := by simp
    have := run_convert_bytes_back (P := P) w src dst e a c (bs.map toU8) hs he hd (fun j hj => by
      have hj' : j < bs.length := by simpa using hj
      rw [hr.cells j _ (nums_get .u8 bs j hj')]
      have hb' := hb _ (List.getElem_mem hj')
      obtain ⟨n, hn⟩ : ∃ n : Nat, bs[j] = (n : Int) := ⟨bs[j].toNat, by omega⟩
      simp only [List.getElem_map, nth, List.getElem?_eq_getElem hj', Option.getD_some, hn]
      rw [toU8_nat n (by omega)])
    rw [hl] at this
    exact this
end Go.Proofs.YtmcmfklkljehiaaGreat
