/-
  No cell of these rows narrows 'for every input' (looked for: loops, veiled, ifaces, maps, wideKeys, modest, calm, conditions, laid).
  DERIVED. THE GIVEN ROWS OF THIS SEAT. 4 by the template 'for every input the law returns true; each argument reads behind the call as it read before'; 0 by the template 'total and deterministic' (their statements: YthhbikilighemaaTotals.lean).
  GIVEN WITH THE SEED: the statements are not yours to turn. If you find one false, say at which input.
  Laid BY PROGRAM, IN A SANDBOX (cutbox-rows.mjs): the forced cells as the released guide's own fill.sh prints them over the translation fedc29ecc384ff95… (all of the seat's roots in one cut). By AI agents, Wed Nov 11 2026. No macro, syntax, notation, axiom, sorry.
-/
import Derived.Test.YthhbikilighemaaChecked
import GoSem.Claim
import GoSem.ClaimJoined
import GoSem.ClaimMapViews
import Derived.JoinedTies
import Derived.KernelRfl
namespace Go.Proofs.Ythhbikilighemaa
/- THE CELL 'sum', in the pinned program and in every row, IS THE sha256 OF THE DUMP (.gsa) THAT YthhbikilighemaaProg.lean LOADS. Nothing in Lean hashes anything: it is a label: what it is worth is what the hold of that sum in a sandbox is worth. -/
noncomputable def Try.pinned : Pinned := { name := "ythhbikilighemaa", sum := "fedc29ecc384ff95a65897ff2c45b8ba77f12d5270ec7e55d1e4224cbe9740f8", checked := Try.checked }
namespace Rows
def none {H : Type} : Left H := { results := [], args := [] }

/-- 'laws.FnExactRunsOf': WHATEVER THE INPUT: true; the input reads as it did. -/
def fnExactRunsOfSpec : ChangeSpec := { name := "fnExactRunsOf", fn := fun _ => fun
  | [d1, d2] => { results := [.lit (.bool true)], args := [d1, d2] }
  | _ => none }
def fnExactRunsOfRow : OpenClaim := { program := "ythhbikilighemaa", sum := "fedc29ecc384ff95a65897ff2c45b8ba77f12d5270ec7e55d1e4224cbe9740f8", func := "loop.example/g00739/laws.FnExactRunsOf", spec := "fnExactRunsOf", unfollowed := true, recurses := true, plainKeys := false, apart := false }
def FnExactRunsOfSaid : Prop := fnExactRunsOfRow.holds Try.pinned (OpenSpec.ofChange fnExactRunsOfSpec)

/-- ITS FALSE NEIGHBOUR: 'it returns false'. Refute it at one input. -/
def fnExactRunsOfWrong : ChangeSpec := { name := "fnExactRunsOf", fn := fun _ => fun
  | [d1, d2] => { results := [.lit (.bool false)], args := [d1, d2] }
  | _ => none }
def FnExactRunsOfWrongFalsely : Prop := fnExactRunsOfRow.holds Try.pinned (OpenSpec.ofChange fnExactRunsOfWrong)

/-- 'laws.FnExactSequencesOf': WHATEVER THE INPUT: true; the input reads as it did. -/
def fnExactSequencesOfSpec : ChangeSpec := { name := "fnExactSequencesOf", fn := fun _ => fun
  | [d1, d2] => { results := [.lit (.bool true)], args := [d1, d2] }
  | _ => none }
def fnExactSequencesOfRow : OpenClaim := { program := "ythhbikilighemaa", sum := "fedc29ecc384ff95a65897ff2c45b8ba77f12d5270ec7e55d1e4224cbe9740f8", func := "loop.example/g00739/laws.FnExactSequencesOf", spec := "fnExactSequencesOf", unfollowed := true, recurses := true, plainKeys := false, apart := false }
def FnExactSequencesOfSaid : Prop := fnExactSequencesOfRow.holds Try.pinned (OpenSpec.ofChange fnExactSequencesOfSpec)

/-- ITS FALSE NEIGHBOUR: 'it returns false'. Refute it at one input. -/
def fnExactSequencesOfWrong : ChangeSpec := { name := "fnExactSequencesOf", fn := fun _ => fun
  | [d1, d2] => { results := [.lit (.bool false)], args := [d1, d2] }
  | _ => none }
def FnExactSequencesOfWrongFalsely : Prop := fnExactSequencesOfRow.holds Try.pinned (OpenSpec.ofChange fnExactSequencesOfWrong)

/-- 'laws.FnExactSideOf': WHATEVER THE INPUT: true; the input reads as it did. -/
def fnExactSideOfSpec : ChangeSpec := { name := "fnExactSideOf", fn := fun _ => fun
  | [d] => { results := [.lit (.bool true)], args := [d] }
  | _ => none }
def fnExactSideOfRow : OpenClaim := { program := "ythhbikilighemaa", sum := "fedc29ecc384ff95a65897ff2c45b8ba77f12d5270ec7e55d1e4224cbe9740f8", func := "loop.example/g00739/laws.FnExactSideOf", spec := "fnExactSideOf", plainKeys := false, apart := false }
def FnExactSideOfSaid : Prop := fnExactSideOfRow.holds Try.pinned (OpenSpec.ofChange fnExactSideOfSpec)

/-- ITS FALSE NEIGHBOUR: 'it returns false'. Refute it at one input. -/
def fnExactSideOfWrong : ChangeSpec := { name := "fnExactSideOf", fn := fun _ => fun
  | [d] => { results := [.lit (.bool false)], args := [d] }
  | _ => none }
def FnExactSideOfWrongFalsely : Prop := fnExactSideOfRow.holds Try.pinned (OpenSpec.ofChange fnExactSideOfWrong)

/-- 'laws.FnExactSameSequences': WHATEVER THE INPUT: true; the input reads as it did. -/
def fnExactSameSequencesSpec : ChangeSpec := { name := "fnExactSameSequences", fn := fun _ => fun
  | [d1, d2] => { results := [.lit (.bool true)], args := [d1, d2] }
  | _ => none }
def fnExactSameSequencesRow : OpenClaim := { program := "ythhbikilighemaa", sum := "fedc29ecc384ff95a65897ff2c45b8ba77f12d5270ec7e55d1e4224cbe9740f8", func := "loop.example/g00739/laws.FnExactSameSequences", spec := "fnExactSameSequences", unfollowed := true, recurses := true, plainKeys := false, apart := false }
def FnExactSameSequencesSaid : Prop := fnExactSameSequencesRow.holds Try.pinned (OpenSpec.ofChange fnExactSameSequencesSpec)

/-- ITS FALSE NEIGHBOUR: 'it returns false'. Refute it at one input. -/
def fnExactSameSequencesWrong : ChangeSpec := { name := "fnExactSameSequences", fn := fun _ => fun
  | [d1, d2] => { results := [.lit (.bool false)], args := [d1, d2] }
  | _ => none }
def FnExactSameSequencesWrongFalsely : Prop := fnExactSameSequencesRow.holds Try.pinned (OpenSpec.ofChange fnExactSameSequencesWrong)

/- THE SECOND FORM. 'bulk': how many values and letters a reading holds, each counted each time it is reached (what is shared counts as often as it is met; a slice's spare places count too). A statement '..UptoSaid' is the law's where the arguments, and the package variables that the reading takes, are together of bulk at most 1048576: NARROWER than '..Said'. Prove '..Said' where nothing that the law and all that it calls make is longer than what came in: it says more and counts as full. Else prove '..UptoSaid'. A law counts once. -/
mutual
def uptoBulk {H : Type} : DataW H → Nat
  | .lit (.string bytes) => bytes.length + 1
  | .lit _ => 1
  | .nil => 1
  | .ptr d => uptoBulk d + 1
  | .slice elems spare => uptoBulkAll elems + uptoBulkAll spare + 1
  | .agg parts => uptoBulkAll parts + 1
  | .iface _ d => uptoBulk d + 1
  | .map entries => uptoBulkEntries entries + 1
  | .held _ => 1
def uptoBulkAll {H : Type} : List (DataW H) → Nat
  | [] => 0
  | d :: r => uptoBulk d + uptoBulkAll r
def uptoBulkEntries {H : Type} : List (Lit × DataW H) → Nat
  | [] => 0
  | x :: r => uptoBulkEntry x + uptoBulkEntries r
def uptoBulkEntry {H : Type} : Lit × DataW H → Nat
  | (.string bytes, d) => bytes.length + uptoBulk d + 1
  | (_, d) => uptoBulk d + 1
 end
def uptoSmall : (H : Type) → List (DataW H) → Bool := fun _ ds => decide (uptoBulkAll ds ≤ 1048576)
def OpenSpec.upto (s : _root_.Go.ChangeSpec) : _root_.Go.OpenSpec := { _root_.Go.OpenSpec.ofChange s with cond := some uptoSmall }

/-- 'laws.FnExactRunsOf', WHERE WHAT IT READS IS OF BULK AT MOST 1048576: true; the input reads as it did. -/
def fnExactRunsOfUptoRow : OpenClaim := { program := "ythhbikilighemaa", sum := "fedc29ecc384ff95a65897ff2c45b8ba77f12d5270ec7e55d1e4224cbe9740f8", func := "loop.example/g00739/laws.FnExactRunsOf", spec := "fnExactRunsOf", unfollowed := true, recurses := true, plainKeys := false, apart := false, narrowed := true }
def FnExactRunsOfUptoSaid : Prop := fnExactRunsOfUptoRow.holds Try.pinned (OpenSpec.upto fnExactRunsOfSpec)

/-- 'laws.FnExactSequencesOf', WHERE WHAT IT READS IS OF BULK AT MOST 1048576: true; the input reads as it did. -/
def fnExactSequencesOfUptoRow : OpenClaim := { program := "ythhbikilighemaa", sum := "fedc29ecc384ff95a65897ff2c45b8ba77f12d5270ec7e55d1e4224cbe9740f8", func := "loop.example/g00739/laws.FnExactSequencesOf", spec := "fnExactSequencesOf", unfollowed := true, recurses := true, plainKeys := false, apart := false, narrowed := true }
def FnExactSequencesOfUptoSaid : Prop := fnExactSequencesOfUptoRow.holds Try.pinned (OpenSpec.upto fnExactSequencesOfSpec)

/-- 'laws.FnExactSideOf', WHERE WHAT IT READS IS OF BULK AT MOST 1048576: true; the input reads as it did. -/
def fnExactSideOfUptoRow : OpenClaim := { program := "ythhbikilighemaa", sum := "fedc29ecc384ff95a65897ff2c45b8ba77f12d5270ec7e55d1e4224cbe9740f8", func := "loop.example/g00739/laws.FnExactSideOf", spec := "fnExactSideOf", plainKeys := false, apart := false, narrowed := true }
def FnExactSideOfUptoSaid : Prop := fnExactSideOfUptoRow.holds Try.pinned (OpenSpec.upto fnExactSideOfSpec)

/-- 'laws.FnExactSameSequences', WHERE WHAT IT READS IS OF BULK AT MOST 1048576: true; the input reads as it did. -/
def fnExactSameSequencesUptoRow : OpenClaim := { program := "ythhbikilighemaa", sum := "fedc29ecc384ff95a65897ff2c45b8ba77f12d5270ec7e55d1e4224cbe9740f8", func := "loop.example/g00739/laws.FnExactSameSequences", spec := "fnExactSameSequences", unfollowed := true, recurses := true, plainKeys := false, apart := false, narrowed := true }
def FnExactSameSequencesUptoSaid : Prop := fnExactSameSequencesUptoRow.holds Try.pinned (OpenSpec.upto fnExactSameSequencesSpec)

end Rows
end Go.Proofs.Ythhbikilighemaa
