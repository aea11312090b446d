/-
  No cell of these rows narrows 'for every input' (looked for: loops, veiled, ifaces, maps, wideKeys, modest, calm, conditions, laid).
  DERIVED. THE GIVEN ROWS OF THIS SEAT. 6 by the template 'for every input the law returns true; each argument reads behind the call as it read before'; 0 by the template 'total and deterministic' (their statements: YtchmolpnfdbhdaaTotals.lean).
  GIVEN WITH THE SEED: the statements are not yours to turn. If you find one false, say at which input.
  Laid BY PROGRAM, IN A SANDBOX (cutbox-rows.mjs): the forced cells as the released guide's own fill.sh prints them over the translation c428b1f0f66f13da… (all of the seat's roots in one cut). By AI agents, Wed Nov 11 2026. No macro, syntax, notation, axiom, sorry.
-/
import Derived.Test.YtchmolpnfdbhdaaChecked
import GoSem.Claim
import GoSem.ClaimJoined
import GoSem.ClaimMapViews
import Derived.JoinedTies
import Derived.KernelRfl
namespace Go.Proofs.Ytchmolpnfdbhdaa
/- THE CELL 'sum', in the pinned program and in every row, IS THE sha256 OF THE DUMP (.gsa) THAT YtchmolpnfdbhdaaProg.lean LOADS. Nothing in Lean hashes anything: it is a label: what it is worth is what the hold of that sum in a sandbox is worth. -/
noncomputable def Try.pinned : Pinned := { name := "ytchmolpnfdbhdaa", sum := "c428b1f0f66f13da499b8e7892cda266f26d1b52e4f68231c026da0f69e60d46", checked := Try.checked }
namespace Rows
def none {H : Type} : Left H := { results := [], args := [] }

/-- 'laws.FnExactClassOf': WHATEVER THE INPUT: true; the input reads as it did. -/
def fnExactClassOfSpec : ChangeSpec := { name := "fnExactClassOf", fn := fun _ => fun
  | [d] => { results := [.lit (.bool true)], args := [d] }
  | _ => none }
def fnExactClassOfRow : OpenClaim := { program := "ytchmolpnfdbhdaa", sum := "c428b1f0f66f13da499b8e7892cda266f26d1b52e4f68231c026da0f69e60d46", func := "loop.example/g00739/laws.FnExactClassOf", spec := "fnExactClassOf", plainKeys := false, apart := false }
def FnExactClassOfSaid : Prop := fnExactClassOfRow.holds Try.pinned (OpenSpec.ofChange fnExactClassOfSpec)

/-- ITS FALSE NEIGHBOUR: 'it returns false'. Refute it at one input. -/
def fnExactClassOfWrong : ChangeSpec := { name := "fnExactClassOf", fn := fun _ => fun
  | [d] => { results := [.lit (.bool false)], args := [d] }
  | _ => none }
def FnExactClassOfWrongFalsely : Prop := fnExactClassOfRow.holds Try.pinned (OpenSpec.ofChange fnExactClassOfWrong)

/-- 'laws.FnExactIsRemoved': WHATEVER THE INPUT: true; the input reads as it did. -/
def fnExactIsRemovedSpec : ChangeSpec := { name := "fnExactIsRemoved", fn := fun _ => fun
  | [d] => { results := [.lit (.bool true)], args := [d] }
  | _ => none }
def fnExactIsRemovedRow : OpenClaim := { program := "ytchmolpnfdbhdaa", sum := "c428b1f0f66f13da499b8e7892cda266f26d1b52e4f68231c026da0f69e60d46", func := "loop.example/g00739/laws.FnExactIsRemoved", spec := "fnExactIsRemoved", plainKeys := false, apart := false }
def FnExactIsRemovedSaid : Prop := fnExactIsRemovedRow.holds Try.pinned (OpenSpec.ofChange fnExactIsRemovedSpec)

/-- ITS FALSE NEIGHBOUR: 'it returns false'. Refute it at one input. -/
def fnExactIsRemovedWrong : ChangeSpec := { name := "fnExactIsRemoved", fn := fun _ => fun
  | [d] => { results := [.lit (.bool false)], args := [d] }
  | _ => none }
def FnExactIsRemovedWrongFalsely : Prop := fnExactIsRemovedRow.holds Try.pinned (OpenSpec.ofChange fnExactIsRemovedWrong)

/-- 'laws.FnExactIsShown': WHATEVER THE INPUT: true; the input reads as it did. -/
def fnExactIsShownSpec : ChangeSpec := { name := "fnExactIsShown", fn := fun _ => fun
  | [d] => { results := [.lit (.bool true)], args := [d] }
  | _ => none }
def fnExactIsShownRow : OpenClaim := { program := "ytchmolpnfdbhdaa", sum := "c428b1f0f66f13da499b8e7892cda266f26d1b52e4f68231c026da0f69e60d46", func := "loop.example/g00739/laws.FnExactIsShown", spec := "fnExactIsShown", plainKeys := false, apart := false }
def FnExactIsShownSaid : Prop := fnExactIsShownRow.holds Try.pinned (OpenSpec.ofChange fnExactIsShownSpec)

/-- ITS FALSE NEIGHBOUR: 'it returns false'. Refute it at one input. -/
def fnExactIsShownWrong : ChangeSpec := { name := "fnExactIsShown", fn := fun _ => fun
  | [d] => { results := [.lit (.bool false)], args := [d] }
  | _ => none }
def FnExactIsShownWrongFalsely : Prop := fnExactIsShownRow.holds Try.pinned (OpenSpec.ofChange fnExactIsShownWrong)

/-- 'laws.FnExactFormsOf': WHATEVER THE INPUT: true; the input reads as it did. -/
def fnExactFormsOfSpec : ChangeSpec := { name := "fnExactFormsOf", fn := fun _ => fun
  | [d] => { results := [.lit (.bool true)], args := [d] }
  | _ => none }
def fnExactFormsOfRow : OpenClaim := { program := "ytchmolpnfdbhdaa", sum := "c428b1f0f66f13da499b8e7892cda266f26d1b52e4f68231c026da0f69e60d46", func := "loop.example/g00739/laws.FnExactFormsOf", spec := "fnExactFormsOf", plainKeys := false, apart := false }
def FnExactFormsOfSaid : Prop := fnExactFormsOfRow.holds Try.pinned (OpenSpec.ofChange fnExactFormsOfSpec)

/-- ITS FALSE NEIGHBOUR: 'it returns false'. Refute it at one input. -/
def fnExactFormsOfWrong : ChangeSpec := { name := "fnExactFormsOf", fn := fun _ => fun
  | [d] => { results := [.lit (.bool false)], args := [d] }
  | _ => none }
def FnExactFormsOfWrongFalsely : Prop := fnExactFormsOfRow.holds Try.pinned (OpenSpec.ofChange fnExactFormsOfWrong)

/-- 'laws.FnExactFormOf': WHATEVER THE INPUT: true; the input reads as it did. -/
def fnExactFormOfSpec : ChangeSpec := { name := "fnExactFormOf", fn := fun _ => fun
  | [d1, d2, d3] => { results := [.lit (.bool true)], args := [d1, d2, d3] }
  | _ => none }
def fnExactFormOfRow : OpenClaim := { program := "ytchmolpnfdbhdaa", sum := "c428b1f0f66f13da499b8e7892cda266f26d1b52e4f68231c026da0f69e60d46", func := "loop.example/g00739/laws.FnExactFormOf", spec := "fnExactFormOf", plainKeys := false, apart := false }
def FnExactFormOfSaid : Prop := fnExactFormOfRow.holds Try.pinned (OpenSpec.ofChange fnExactFormOfSpec)

/-- ITS FALSE NEIGHBOUR: 'it returns false'. Refute it at one input. -/
def fnExactFormOfWrong : ChangeSpec := { name := "fnExactFormOf", fn := fun _ => fun
  | [d1, d2, d3] => { results := [.lit (.bool false)], args := [d1, d2, d3] }
  | _ => none }
def FnExactFormOfWrongFalsely : Prop := fnExactFormOfRow.holds Try.pinned (OpenSpec.ofChange fnExactFormOfWrong)

/-- 'laws.FnExactLigatureOf': WHATEVER THE INPUT: true; the input reads as it did. -/
def fnExactLigatureOfSpec : ChangeSpec := { name := "fnExactLigatureOf", fn := fun _ => fun
  | [d1, d2] => { results := [.lit (.bool true)], args := [d1, d2] }
  | _ => none }
def fnExactLigatureOfRow : OpenClaim := { program := "ytchmolpnfdbhdaa", sum := "c428b1f0f66f13da499b8e7892cda266f26d1b52e4f68231c026da0f69e60d46", func := "loop.example/g00739/laws.FnExactLigatureOf", spec := "fnExactLigatureOf", plainKeys := false, apart := false }
def FnExactLigatureOfSaid : Prop := fnExactLigatureOfRow.holds Try.pinned (OpenSpec.ofChange fnExactLigatureOfSpec)

/-- ITS FALSE NEIGHBOUR: 'it returns false'. Refute it at one input. -/
def fnExactLigatureOfWrong : ChangeSpec := { name := "fnExactLigatureOf", fn := fun _ => fun
  | [d1, d2] => { results := [.lit (.bool false)], args := [d1, d2] }
  | _ => none }
def FnExactLigatureOfWrongFalsely : Prop := fnExactLigatureOfRow.holds Try.pinned (OpenSpec.ofChange fnExactLigatureOfWrong)

/- THE SECOND FORM. 'bulk': how many values and letters a reading holds, each counted each time it is reached (what is shared counts as often as it is met; a slice's spare places count too). A statement '..UptoSaid' is the law's where the arguments, and the package variables that the reading takes, are together of bulk at most 1048576: NARROWER than '..Said'. Prove '..Said' where nothing that the law and all that it calls make is longer than what came in: it says more and counts as full. Else prove '..UptoSaid'. A law counts once. -/
mutual
def uptoBulk {H : Type} : DataW H → Nat
  | .lit (.string bytes) => bytes.length + 1
  | .lit _ => 1
  | .nil => 1
  | .ptr d => uptoBulk d + 1
  | .slice elems spare => uptoBulkAll elems + uptoBulkAll spare + 1
  | .agg parts => uptoBulkAll parts + 1
  | .iface _ d => uptoBulk d + 1
  | .map entries => uptoBulkEntries entries + 1
  | .held _ => 1
def uptoBulkAll {H : Type} : List (DataW H) → Nat
  | [] => 0
  | d :: r => uptoBulk d + uptoBulkAll r
def uptoBulkEntries {H : Type} : List (Lit × DataW H) → Nat
  | [] => 0
  | x :: r => uptoBulkEntry x + uptoBulkEntries r
def uptoBulkEntry {H : Type} : Lit × DataW H → Nat
  | (.string bytes, d) => bytes.length + uptoBulk d + 1
  | (_, d) => uptoBulk d + 1
 end
def uptoSmall : (H : Type) → List (DataW H) → Bool := fun _ ds => decide (uptoBulkAll ds ≤ 1048576)
def OpenSpec.upto (s : _root_.Go.ChangeSpec) : _root_.Go.OpenSpec := { _root_.Go.OpenSpec.ofChange s with cond := some uptoSmall }

/-- 'laws.FnExactClassOf', WHERE WHAT IT READS IS OF BULK AT MOST 1048576: true; the input reads as it did. -/
def fnExactClassOfUptoRow : OpenClaim := { program := "ytchmolpnfdbhdaa", sum := "c428b1f0f66f13da499b8e7892cda266f26d1b52e4f68231c026da0f69e60d46", func := "loop.example/g00739/laws.FnExactClassOf", spec := "fnExactClassOf", plainKeys := false, apart := false, narrowed := true }
def FnExactClassOfUptoSaid : Prop := fnExactClassOfUptoRow.holds Try.pinned (OpenSpec.upto fnExactClassOfSpec)

/-- 'laws.FnExactIsRemoved', WHERE WHAT IT READS IS OF BULK AT MOST 1048576: true; the input reads as it did. -/
def fnExactIsRemovedUptoRow : OpenClaim := { program := "ytchmolpnfdbhdaa", sum := "c428b1f0f66f13da499b8e7892cda266f26d1b52e4f68231c026da0f69e60d46", func := "loop.example/g00739/laws.FnExactIsRemoved", spec := "fnExactIsRemoved", plainKeys := false, apart := false, narrowed := true }
def FnExactIsRemovedUptoSaid : Prop := fnExactIsRemovedUptoRow.holds Try.pinned (OpenSpec.upto fnExactIsRemovedSpec)

/-- 'laws.FnExactIsShown', WHERE WHAT IT READS IS OF BULK AT MOST 1048576: true; the input reads as it did. -/
def fnExactIsShownUptoRow : OpenClaim := { program := "ytchmolpnfdbhdaa", sum := "c428b1f0f66f13da499b8e7892cda266f26d1b52e4f68231c026da0f69e60d46", func := "loop.example/g00739/laws.FnExactIsShown", spec := "fnExactIsShown", plainKeys := false, apart := false, narrowed := true }
def FnExactIsShownUptoSaid : Prop := fnExactIsShownUptoRow.holds Try.pinned (OpenSpec.upto fnExactIsShownSpec)

/-- 'laws.FnExactFormsOf', WHERE WHAT IT READS IS OF BULK AT MOST 1048576: true; the input reads as it did. -/
def fnExactFormsOfUptoRow : OpenClaim := { program := "ytchmolpnfdbhdaa", sum := "c428b1f0f66f13da499b8e7892cda266f26d1b52e4f68231c026da0f69e60d46", func := "loop.example/g00739/laws.FnExactFormsOf", spec := "fnExactFormsOf", plainKeys := false, apart := false, narrowed := true }
def FnExactFormsOfUptoSaid : Prop := fnExactFormsOfUptoRow.holds Try.pinned (OpenSpec.upto fnExactFormsOfSpec)

/-- 'laws.FnExactFormOf', WHERE WHAT IT READS IS OF BULK AT MOST 1048576: true; the input reads as it did. -/
def fnExactFormOfUptoRow : OpenClaim := { program := "ytchmolpnfdbhdaa", sum := "c428b1f0f66f13da499b8e7892cda266f26d1b52e4f68231c026da0f69e60d46", func := "loop.example/g00739/laws.FnExactFormOf", spec := "fnExactFormOf", plainKeys := false, apart := false, narrowed := true }
def FnExactFormOfUptoSaid : Prop := fnExactFormOfUptoRow.holds Try.pinned (OpenSpec.upto fnExactFormOfSpec)

/-- 'laws.FnExactLigatureOf', WHERE WHAT IT READS IS OF BULK AT MOST 1048576: true; the input reads as it did. -/
def fnExactLigatureOfUptoRow : OpenClaim := { program := "ytchmolpnfdbhdaa", sum := "c428b1f0f66f13da499b8e7892cda266f26d1b52e4f68231c026da0f69e60d46", func := "loop.example/g00739/laws.FnExactLigatureOf", spec := "fnExactLigatureOf", plainKeys := false, apart := false, narrowed := true }
def FnExactLigatureOfUptoSaid : Prop := fnExactLigatureOfUptoRow.holds Try.pinned (OpenSpec.upto fnExactLigatureOfSpec)

end Rows
end Go.Proofs.Ytchmolpnfdbhdaa
