/-
  No cell of these rows narrows 'for every input' (looked for: loops, veiled, ifaces, maps, wideKeys, modest, calm, conditions, laid).
  DERIVED. THE GIVEN ROWS OF THIS SEAT. 5 by the template 'for every input the law returns true; each argument reads behind the call as it read before'; 0 by the template 'total and deterministic' (their statements: YtflnpfkmlocllaaTotals.lean).
  GIVEN WITH THE SEED: the statements are not yours to turn. If you find one false, say at which input.
  Laid BY PROGRAM, IN A SANDBOX (cutbox-rows.mjs): the forced cells as the released guide's own fill.sh prints them over the translation 9626685a99c0cfa5… (all of the seat's roots in one cut). By AI agents, Wed Nov 11 2026. No macro, syntax, notation, axiom, sorry.
-/
import Derived.Test.YtflnpfkmlocllaaChecked
import GoSem.Claim
import GoSem.ClaimJoined
import GoSem.ClaimMapViews
import Derived.JoinedTies
import Derived.KernelRfl
namespace Go.Proofs.Ytflnpfkmlocllaa
/- THE CELL 'sum', in the pinned program and in every row, IS THE sha256 OF THE DUMP (.gsa) THAT YtflnpfkmlocllaaProg.lean LOADS. Nothing in Lean hashes anything: it is a label: what it is worth is what the hold of that sum in a sandbox is worth. -/
noncomputable def Try.pinned : Pinned := { name := "ytflnpfkmlocllaa", sum := "9626685a99c0cfa54a372105af4a73b61e83346fdb4bfb8fd4eb53f695573558", checked := Try.checked }
namespace Rows
def none {H : Type} : Left H := { results := [], args := [] }

/-- 'laws.FnParas': WHATEVER THE INPUT: true; the input reads as it did. -/
def fnParasSpec : ChangeSpec := { name := "fnParas", fn := fun _ => fun
  | [d] => { results := [.lit (.bool true)], args := [d] }
  | _ => none }
def fnParasRow : OpenClaim := { program := "ytflnpfkmlocllaa", sum := "9626685a99c0cfa54a372105af4a73b61e83346fdb4bfb8fd4eb53f695573558", func := "loop.example/g00739/laws.FnParas", spec := "fnParas", plainKeys := false, apart := false }
def FnParasSaid : Prop := fnParasRow.holds Try.pinned (OpenSpec.ofChange fnParasSpec)

/-- ITS FALSE NEIGHBOUR: 'it returns false'. Refute it at one input. -/
def fnParasWrong : ChangeSpec := { name := "fnParas", fn := fun _ => fun
  | [d] => { results := [.lit (.bool false)], args := [d] }
  | _ => none }
def FnParasWrongFalsely : Prop := fnParasRow.holds Try.pinned (OpenSpec.ofChange fnParasWrong)

/-- 'laws.FnExactTextFault': WHATEVER THE INPUT: true; the input reads as it did. -/
def fnExactTextFaultSpec : ChangeSpec := { name := "fnExactTextFault", fn := fun _ => fun
  | [d] => { results := [.lit (.bool true)], args := [d] }
  | _ => none }
def fnExactTextFaultRow : OpenClaim := { program := "ytflnpfkmlocllaa", sum := "9626685a99c0cfa54a372105af4a73b61e83346fdb4bfb8fd4eb53f695573558", func := "loop.example/g00739/laws.FnExactTextFault", spec := "fnExactTextFault", plainKeys := false, apart := false }
def FnExactTextFaultSaid : Prop := fnExactTextFaultRow.holds Try.pinned (OpenSpec.ofChange fnExactTextFaultSpec)

/-- ITS FALSE NEIGHBOUR: 'it returns false'. Refute it at one input. -/
def fnExactTextFaultWrong : ChangeSpec := { name := "fnExactTextFault", fn := fun _ => fun
  | [d] => { results := [.lit (.bool false)], args := [d] }
  | _ => none }
def FnExactTextFaultWrongFalsely : Prop := fnExactTextFaultRow.holds Try.pinned (OpenSpec.ofChange fnExactTextFaultWrong)

/-- 'laws.FnExactSplitText': WHATEVER THE INPUT: true; the input reads as it did. -/
def fnExactSplitTextSpec : ChangeSpec := { name := "fnExactSplitText", fn := fun _ => fun
  | [d] => { results := [.lit (.bool true)], args := [d] }
  | _ => none }
def fnExactSplitTextRow : OpenClaim := { program := "ytflnpfkmlocllaa", sum := "9626685a99c0cfa54a372105af4a73b61e83346fdb4bfb8fd4eb53f695573558", func := "loop.example/g00739/laws.FnExactSplitText", spec := "fnExactSplitText", plainKeys := false, apart := false }
def FnExactSplitTextSaid : Prop := fnExactSplitTextRow.holds Try.pinned (OpenSpec.ofChange fnExactSplitTextSpec)

/-- ITS FALSE NEIGHBOUR: 'it returns false'. Refute it at one input. -/
def fnExactSplitTextWrong : ChangeSpec := { name := "fnExactSplitText", fn := fun _ => fun
  | [d] => { results := [.lit (.bool false)], args := [d] }
  | _ => none }
def FnExactSplitTextWrongFalsely : Prop := fnExactSplitTextRow.holds Try.pinned (OpenSpec.ofChange fnExactSplitTextWrong)

/-- 'laws.FnExactMatchesOf': WHATEVER THE INPUT: true; the input reads as it did. -/
def fnExactMatchesOfSpec : ChangeSpec := { name := "fnExactMatchesOf", fn := fun _ => fun
  | [d] => { results := [.lit (.bool true)], args := [d] }
  | _ => none }
def fnExactMatchesOfRow : OpenClaim := { program := "ytflnpfkmlocllaa", sum := "9626685a99c0cfa54a372105af4a73b61e83346fdb4bfb8fd4eb53f695573558", func := "loop.example/g00739/laws.FnExactMatchesOf", spec := "fnExactMatchesOf", plainKeys := false, apart := false }
def FnExactMatchesOfSaid : Prop := fnExactMatchesOfRow.holds Try.pinned (OpenSpec.ofChange fnExactMatchesOfSpec)

/-- ITS FALSE NEIGHBOUR: 'it returns false'. Refute it at one input. -/
def fnExactMatchesOfWrong : ChangeSpec := { name := "fnExactMatchesOf", fn := fun _ => fun
  | [d] => { results := [.lit (.bool false)], args := [d] }
  | _ => none }
def FnExactMatchesOfWrongFalsely : Prop := fnExactMatchesOfRow.holds Try.pinned (OpenSpec.ofChange fnExactMatchesOfWrong)

/-- 'laws.FnExactBaseLevel': WHATEVER THE INPUT: true; the input reads as it did. -/
def fnExactBaseLevelSpec : ChangeSpec := { name := "fnExactBaseLevel", fn := fun _ => fun
  | [d] => { results := [.lit (.bool true)], args := [d] }
  | _ => none }
def fnExactBaseLevelRow : OpenClaim := { program := "ytflnpfkmlocllaa", sum := "9626685a99c0cfa54a372105af4a73b61e83346fdb4bfb8fd4eb53f695573558", func := "loop.example/g00739/laws.FnExactBaseLevel", spec := "fnExactBaseLevel", plainKeys := false, apart := false }
def FnExactBaseLevelSaid : Prop := fnExactBaseLevelRow.holds Try.pinned (OpenSpec.ofChange fnExactBaseLevelSpec)

/-- ITS FALSE NEIGHBOUR: 'it returns false'. Refute it at one input. -/
def fnExactBaseLevelWrong : ChangeSpec := { name := "fnExactBaseLevel", fn := fun _ => fun
  | [d] => { results := [.lit (.bool false)], args := [d] }
  | _ => none }
def FnExactBaseLevelWrongFalsely : Prop := fnExactBaseLevelRow.holds Try.pinned (OpenSpec.ofChange fnExactBaseLevelWrong)

/- THE SECOND FORM. 'bulk': how many values and letters a reading holds, each counted each time it is reached (what is shared counts as often as it is met; a slice's spare places count too). A statement '..UptoSaid' is the law's where the arguments, and the package variables that the reading takes, are together of bulk at most 1048576: NARROWER than '..Said'. Prove '..Said' where nothing that the law and all that it calls make is longer than what came in: it says more and counts as full. Else prove '..UptoSaid'. A law counts once. -/
mutual
def uptoBulk {H : Type} : DataW H → Nat
  | .lit (.string bytes) => bytes.length + 1
  | .lit _ => 1
  | .nil => 1
  | .ptr d => uptoBulk d + 1
  | .slice elems spare => uptoBulkAll elems + uptoBulkAll spare + 1
  | .agg parts => uptoBulkAll parts + 1
  | .iface _ d => uptoBulk d + 1
  | .map entries => uptoBulkEntries entries + 1
  | .held _ => 1
def uptoBulkAll {H : Type} : List (DataW H) → Nat
  | [] => 0
  | d :: r => uptoBulk d + uptoBulkAll r
def uptoBulkEntries {H : Type} : List (Lit × DataW H) → Nat
  | [] => 0
  | x :: r => uptoBulkEntry x + uptoBulkEntries r
def uptoBulkEntry {H : Type} : Lit × DataW H → Nat
  | (.string bytes, d) => bytes.length + uptoBulk d + 1
  | (_, d) => uptoBulk d + 1
 end
def uptoSmall : (H : Type) → List (DataW H) → Bool := fun _ ds => decide (uptoBulkAll ds ≤ 1048576)
def OpenSpec.upto (s : _root_.Go.ChangeSpec) : _root_.Go.OpenSpec := { _root_.Go.OpenSpec.ofChange s with cond := some uptoSmall }

/-- 'laws.FnParas', WHERE WHAT IT READS IS OF BULK AT MOST 1048576: true; the input reads as it did. -/
def fnParasUptoRow : OpenClaim := { program := "ytflnpfkmlocllaa", sum := "9626685a99c0cfa54a372105af4a73b61e83346fdb4bfb8fd4eb53f695573558", func := "loop.example/g00739/laws.FnParas", spec := "fnParas", plainKeys := false, apart := false, narrowed := true }
def FnParasUptoSaid : Prop := fnParasUptoRow.holds Try.pinned (OpenSpec.upto fnParasSpec)

/-- 'laws.FnExactTextFault', WHERE WHAT IT READS IS OF BULK AT MOST 1048576: true; the input reads as it did. -/
def fnExactTextFaultUptoRow : OpenClaim := { program := "ytflnpfkmlocllaa", sum := "9626685a99c0cfa54a372105af4a73b61e83346fdb4bfb8fd4eb53f695573558", func := "loop.example/g00739/laws.FnExactTextFault", spec := "fnExactTextFault", plainKeys := false, apart := false, narrowed := true }
def FnExactTextFaultUptoSaid : Prop := fnExactTextFaultUptoRow.holds Try.pinned (OpenSpec.upto fnExactTextFaultSpec)

/-- 'laws.FnExactSplitText', WHERE WHAT IT READS IS OF BULK AT MOST 1048576: true; the input reads as it did. -/
def fnExactSplitTextUptoRow : OpenClaim := { program := "ytflnpfkmlocllaa", sum := "9626685a99c0cfa54a372105af4a73b61e83346fdb4bfb8fd4eb53f695573558", func := "loop.example/g00739/laws.FnExactSplitText", spec := "fnExactSplitText", plainKeys := false, apart := false, narrowed := true }
def FnExactSplitTextUptoSaid : Prop := fnExactSplitTextUptoRow.holds Try.pinned (OpenSpec.upto fnExactSplitTextSpec)

/-- 'laws.FnExactMatchesOf', WHERE WHAT IT READS IS OF BULK AT MOST 1048576: true; the input reads as it did. -/
def fnExactMatchesOfUptoRow : OpenClaim := { program := "ytflnpfkmlocllaa", sum := "9626685a99c0cfa54a372105af4a73b61e83346fdb4bfb8fd4eb53f695573558", func := "loop.example/g00739/laws.FnExactMatchesOf", spec := "fnExactMatchesOf", plainKeys := false, apart := false, narrowed := true }
def FnExactMatchesOfUptoSaid : Prop := fnExactMatchesOfUptoRow.holds Try.pinned (OpenSpec.upto fnExactMatchesOfSpec)

/-- 'laws.FnExactBaseLevel', WHERE WHAT IT READS IS OF BULK AT MOST 1048576: true; the input reads as it did. -/
def fnExactBaseLevelUptoRow : OpenClaim := { program := "ytflnpfkmlocllaa", sum := "9626685a99c0cfa54a372105af4a73b61e83346fdb4bfb8fd4eb53f695573558", func := "loop.example/g00739/laws.FnExactBaseLevel", spec := "fnExactBaseLevel", plainKeys := false, apart := false, narrowed := true }
def FnExactBaseLevelUptoSaid : Prop := fnExactBaseLevelUptoRow.holds Try.pinned (OpenSpec.upto fnExactBaseLevelSpec)

end Rows
end Go.Proofs.Ytflnpfkmlocllaa
