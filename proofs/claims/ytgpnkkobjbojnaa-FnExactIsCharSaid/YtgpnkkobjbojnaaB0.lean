/- Words of our own for memory: a slice that reads as a list of cells; small facts on worlds. No program is named here. -/
import Derived.WalkKit
import Derived.WalkSpells
import Derived.Lib.Hide
namespace Go.Proofs.Ytgpnkkobjbojnaa
open Go.RowKit

/-- The cells from A on are xs, all in a block below B. -/
def Rd (w : World) (B : Nat) (A : Option Addr) (xs : List Value) : Prop :=
  ∀ k u, xs[k]? = some u → ∃ b off, A = some ⟨b, off, none⟩ ∧ b < B ∧ w.cell? ⟨b, off + k, none⟩ = some u

def ints (zs : List Int) : List Value := zs.map (Value.int .i64)

/-- an element, closed to simp -/
def nth (zs : List Int) (k : Nat) : Int := zs[k]?.getD 0

theorem ints_get (zs : List Int) (k : Nat) (hk : k < zs.length) : (ints zs)[k]? = some (.int .i64 (nth zs k)) := by
  simp [ints, nth, List.getElem?_eq_getElem hk]

theorem drop_nth (zs : List Int) (k : Nat) (hk : k < zs.length) : zs.drop k = nth zs k :: zs.drop (k + 1) := by
  rw [List.drop_eq_getElem_cons hk]; simp [nth, List.getElem?_eq_getElem hk]

theorem take_nth (zs : List Int) (k : Nat) (hk : k < zs.length) : zs.take (k + 1) = zs.take k ++ [nth zs k] := by
  rw [List.take_succ_eq_append_getElem hk]; simp [nth, List.getElem?_eq_getElem hk]

theorem Rd.nil (w : World) (B : Nat) (A : Option Addr) : Rd w B A [] := by intro k u h; simp at h

/-- where the slice lies, and all its cells -/
theorem Rd.int {w : World} {B : Nat} {A : Option Addr} {zs : List Int} (h : Rd w B A (ints zs)) (h0 : 0 < zs.length) :
    ∃ b off, A = some ⟨b, off, none⟩ ∧ b < B ∧ ∀ k, k < zs.length → w.cell? ⟨b, off + k, none⟩ = some (.int .i64 (nth zs k)) := by
  obtain ⟨b, off, rfl, hb, _⟩ := h 0 _ (ints_get zs 0 h0)
  refine ⟨b, off, rfl, hb, fun k hk => ?_⟩
  obtain ⟨b', off', e, _, hc⟩ := h k _ (ints_get zs k hk)
  injection e with e
  injection e with e1 e2
  subst e1; subst e2
  exact hc

theorem Rd.keep {w w' : World} {B : Nat} {A : Option Addr} {xs : List Value} (h : Rd w B A xs) (hk : ∀ p : Addr, p.block < B → w'.cell? p = w.cell? p) : Rd w' B A xs := by
  intro k u hu
  obtain ⟨b, off, h1, h2, h3⟩ := h k u hu
  exact ⟨b, off, h1, h2, by rw [hk _ h2]; exact h3⟩

theorem Rd.more {w : World} {B B' : Nat} {A : Option Addr} {xs : List Value} (h : Rd w B A xs) (hB : B ≤ B') : Rd w B' A xs := by
  intro k u hu
  obtain ⟨b, off, h1, h2, h3⟩ := h k u hu
  exact ⟨b, off, h1, by omega, h3⟩

theorem Rd.below {w w' : World} {B C : Nat} {A : Option Addr} {xs : List Value} (h : Rd w B A xs) (hb : Below C w w') (hC : B ≤ C) : Rd w' B A xs :=
  h.keep fun p hp => hb.cell (p := p) (Nat.lt_of_lt_of_le hp hC)

theorem Rd.take {w : World} {B : Nat} {A : Option Addr} {xs : List Value} (h : Rd w B A xs) (k : Nat) : Rd w B A (xs.take k) := by
  intro j u hu
  rw [List.getElem?_take] at hu
  split at hu
  · exact h _ u hu
  · cases hu

/-- What an owned row holds reads so. -/
theorem Rd.own {w : World} {base n : Nat} {e : TypeId} {size : Nat} {A : Option Addr} {c : Nat} {xs : List Value} (h : w.ownsRow base e size (.slice A n c) n xs) (B : Nat) (hB : w.heap.size ≤ B) : Rd w B A xs := by
  intro k u hu
  rcases h.2 with ⟨hv, hn⟩ | ⟨g, cap, cur, hv, _, hg, _, _, _, _⟩
  · have hl := h.1
    rw [hn] at hl
    have : xs = [] := List.eq_nil_of_length_eq_zero (by simpa using hl)
    subst this
    simp at hu
  · have hA : A = some ⟨g, 0, none⟩ := by injection hv
    subst hA
    have hlt : g < w.heap.size := (Array.getElem?_eq_some_iff.1 hg).1
    have hc := h.cells (g := g) rfl k u hu
    refine ⟨g, 0, rfl, by omega, ?_⟩
    have e : (⟨g, 0, none⟩ : Addr).add k = ⟨g, 0 + k, none⟩ := by unfold Addr.add; split <;> simp_all
    rw [← e]; exact hc

/-- A block just laid reads as what it was laid with. -/
theorem Rd.lit (w : World) (vs : Array Value) (t : TypeId) : Rd (w.alloc (.cells vs t)) (w.heap.size + 1) (some ⟨w.heap.size, 0, none⟩) vs.toList := by
  intro k u hu
  refine ⟨_, _, rfl, by omega, ?_⟩
  rw [cell_of_row _ _ _ _ _ _ (heap_alloc_new w (.cells vs t)), Nat.zero_add]
  simpa using hu

theorem rbool {a b : Bool} (h : a = b) : Ending.returned (.bool a) = .returned (.bool b) := by rw [h]
theorem rint {k : IntKind} {a b : Int} (h : a = b) : Ending.returned (.int k a) = .returned (.int k b) := by rw [h]
end Go.Proofs.Ytgpnkkobjbojnaa
