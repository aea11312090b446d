/-
  No cell of these rows narrows 'for every input' (looked for: loops, veiled, ifaces, maps, wideKeys, modest, calm, conditions, laid).
  DERIVED. THE GIVEN ROWS OF THIS SEAT. 8 by the template 'for every input the law returns true; each argument reads behind the call as it read before'; 0 by the template 'total and deterministic' (their statements: YtmkpbfghnkmcgaaTotals.lean).
  GIVEN WITH THE SEED: the statements are not yours to turn. If you find one false, say at which input.
  Laid BY PROGRAM, IN A SANDBOX (cutbox-rows.mjs): the forced cells as the released guide's own fill.sh prints them over the translation 9e0837dc5ba02a40… (all of the seat's roots in one cut). By AI agents, Wed Nov 11 2026. No macro, syntax, notation, axiom, sorry.
-/
import Derived.Test.YtmkpbfghnkmcgaaChecked
import GoSem.Claim
import GoSem.ClaimJoined
import GoSem.ClaimMapViews
import Derived.JoinedTies
import Derived.KernelRfl
namespace Go.Proofs.Ytmkpbfghnkmcgaa
/- THE CELL 'sum', in the pinned program and in every row, IS THE sha256 OF THE DUMP (.gsa) THAT YtmkpbfghnkmcgaaProg.lean LOADS. Nothing in Lean hashes anything: it is a label: what it is worth is what the hold of that sum in a sandbox is worth. -/
noncomputable def Try.pinned : Pinned := { name := "ytmkpbfghnkmcgaa", sum := "9e0837dc5ba02a405098185caa5268a2ebc1f159da063137a3fe1aa830e1572b", checked := Try.checked }
namespace Rows
def none {H : Type} : Left H := { results := [], args := [] }

/-- 'laws.FnParas': WHATEVER THE INPUT: true; the input reads as it did. -/
def fnParasSpec : ChangeSpec := { name := "fnParas", fn := fun _ => fun
  | [d] => { results := [.lit (.bool true)], args := [d] }
  | _ => none }
def fnParasRow : OpenClaim := { program := "ytmkpbfghnkmcgaa", sum := "9e0837dc5ba02a405098185caa5268a2ebc1f159da063137a3fe1aa830e1572b", func := "loop.example/g00739/laws.FnParas", spec := "fnParas", plainKeys := false, apart := false }
def FnParasSaid : Prop := fnParasRow.holds Try.pinned (OpenSpec.ofChange fnParasSpec)

/-- ITS FALSE NEIGHBOUR: 'it returns false'. Refute it at one input. -/
def fnParasWrong : ChangeSpec := { name := "fnParas", fn := fun _ => fun
  | [d] => { results := [.lit (.bool false)], args := [d] }
  | _ => none }
def FnParasWrongFalsely : Prop := fnParasRow.holds Try.pinned (OpenSpec.ofChange fnParasWrong)

/-- 'laws.FnDeeps': WHATEVER THE INPUT: true; the input reads as it did. -/
def fnDeepsSpec : ChangeSpec := { name := "fnDeeps", fn := fun _ => fun
  | [d] => { results := [.lit (.bool true)], args := [d] }
  | _ => none }
def fnDeepsRow : OpenClaim := { program := "ytmkpbfghnkmcgaa", sum := "9e0837dc5ba02a405098185caa5268a2ebc1f159da063137a3fe1aa830e1572b", func := "loop.example/g00739/laws.FnDeeps", spec := "fnDeeps", unfollowed := true, recurses := true, plainKeys := false, apart := false }
def FnDeepsSaid : Prop := fnDeepsRow.holds Try.pinned (OpenSpec.ofChange fnDeepsSpec)

/-- ITS FALSE NEIGHBOUR: 'it returns false'. Refute it at one input. -/
def fnDeepsWrong : ChangeSpec := { name := "fnDeeps", fn := fun _ => fun
  | [d] => { results := [.lit (.bool false)], args := [d] }
  | _ => none }
def FnDeepsWrongFalsely : Prop := fnDeepsRow.holds Try.pinned (OpenSpec.ofChange fnDeepsWrong)

/-- 'laws.FnExactMatchesOf': WHATEVER THE INPUT: true; the input reads as it did. -/
def fnExactMatchesOfSpec : ChangeSpec := { name := "fnExactMatchesOf", fn := fun _ => fun
  | [d] => { results := [.lit (.bool true)], args := [d] }
  | _ => none }
def fnExactMatchesOfRow : OpenClaim := { program := "ytmkpbfghnkmcgaa", sum := "9e0837dc5ba02a405098185caa5268a2ebc1f159da063137a3fe1aa830e1572b", func := "loop.example/g00739/laws.FnExactMatchesOf", spec := "fnExactMatchesOf", plainKeys := false, apart := false }
def FnExactMatchesOfSaid : Prop := fnExactMatchesOfRow.holds Try.pinned (OpenSpec.ofChange fnExactMatchesOfSpec)

/-- ITS FALSE NEIGHBOUR: 'it returns false'. Refute it at one input. -/
def fnExactMatchesOfWrong : ChangeSpec := { name := "fnExactMatchesOf", fn := fun _ => fun
  | [d] => { results := [.lit (.bool false)], args := [d] }
  | _ => none }
def FnExactMatchesOfWrongFalsely : Prop := fnExactMatchesOfRow.holds Try.pinned (OpenSpec.ofChange fnExactMatchesOfWrong)

/-- 'laws.FnExactBaseLevel': WHATEVER THE INPUT: true; the input reads as it did. -/
def fnExactBaseLevelSpec : ChangeSpec := { name := "fnExactBaseLevel", fn := fun _ => fun
  | [d] => { results := [.lit (.bool true)], args := [d] }
  | _ => none }
def fnExactBaseLevelRow : OpenClaim := { program := "ytmkpbfghnkmcgaa", sum := "9e0837dc5ba02a405098185caa5268a2ebc1f159da063137a3fe1aa830e1572b", func := "loop.example/g00739/laws.FnExactBaseLevel", spec := "fnExactBaseLevel", plainKeys := false, apart := false }
def FnExactBaseLevelSaid : Prop := fnExactBaseLevelRow.holds Try.pinned (OpenSpec.ofChange fnExactBaseLevelSpec)

/-- ITS FALSE NEIGHBOUR: 'it returns false'. Refute it at one input. -/
def fnExactBaseLevelWrong : ChangeSpec := { name := "fnExactBaseLevel", fn := fun _ => fun
  | [d] => { results := [.lit (.bool false)], args := [d] }
  | _ => none }
def FnExactBaseLevelWrongFalsely : Prop := fnExactBaseLevelRow.holds Try.pinned (OpenSpec.ofChange fnExactBaseLevelWrong)

/-- 'laws.FnExactParaFault': WHATEVER THE INPUT: true; the input reads as it did. -/
def fnExactParaFaultSpec : ChangeSpec := { name := "fnExactParaFault", fn := fun _ => fun
  | [d1, d2] => { results := [.lit (.bool true)], args := [d1, d2] }
  | _ => none }
def fnExactParaFaultRow : OpenClaim := { program := "ytmkpbfghnkmcgaa", sum := "9e0837dc5ba02a405098185caa5268a2ebc1f159da063137a3fe1aa830e1572b", func := "loop.example/g00739/laws.FnExactParaFault", spec := "fnExactParaFault", plainKeys := false, apart := false }
def FnExactParaFaultSaid : Prop := fnExactParaFaultRow.holds Try.pinned (OpenSpec.ofChange fnExactParaFaultSpec)

/-- ITS FALSE NEIGHBOUR: 'it returns false'. Refute it at one input. -/
def fnExactParaFaultWrong : ChangeSpec := { name := "fnExactParaFault", fn := fun _ => fun
  | [d1, d2] => { results := [.lit (.bool false)], args := [d1, d2] }
  | _ => none }
def FnExactParaFaultWrongFalsely : Prop := fnExactParaFaultRow.holds Try.pinned (OpenSpec.ofChange fnExactParaFaultWrong)

/-- 'laws.FnExactExplicitOf': WHATEVER THE INPUT: true; the input reads as it did. -/
def fnExactExplicitOfSpec : ChangeSpec := { name := "fnExactExplicitOf", fn := fun _ => fun
  | [d1, d2] => { results := [.lit (.bool true)], args := [d1, d2] }
  | _ => none }
def fnExactExplicitOfRow : OpenClaim := { program := "ytmkpbfghnkmcgaa", sum := "9e0837dc5ba02a405098185caa5268a2ebc1f159da063137a3fe1aa830e1572b", func := "loop.example/g00739/laws.FnExactExplicitOf", spec := "fnExactExplicitOf", unfollowed := true, recurses := true, plainKeys := false, apart := false }
def FnExactExplicitOfSaid : Prop := fnExactExplicitOfRow.holds Try.pinned (OpenSpec.ofChange fnExactExplicitOfSpec)

/-- ITS FALSE NEIGHBOUR: 'it returns false'. Refute it at one input. -/
def fnExactExplicitOfWrong : ChangeSpec := { name := "fnExactExplicitOf", fn := fun _ => fun
  | [d1, d2] => { results := [.lit (.bool false)], args := [d1, d2] }
  | _ => none }
def FnExactExplicitOfWrongFalsely : Prop := fnExactExplicitOfRow.holds Try.pinned (OpenSpec.ofChange fnExactExplicitOfWrong)

/-- 'laws.FnExactLeastOdd': WHATEVER THE INPUT: true; the input reads as it did. -/
def fnExactLeastOddSpec : ChangeSpec := { name := "fnExactLeastOdd", fn := fun _ => fun
  | [d] => { results := [.lit (.bool true)], args := [d] }
  | _ => none }
def fnExactLeastOddRow : OpenClaim := { program := "ytmkpbfghnkmcgaa", sum := "9e0837dc5ba02a405098185caa5268a2ebc1f159da063137a3fe1aa830e1572b", func := "loop.example/g00739/laws.FnExactLeastOdd", spec := "fnExactLeastOdd", plainKeys := false, apart := false }
def FnExactLeastOddSaid : Prop := fnExactLeastOddRow.holds Try.pinned (OpenSpec.ofChange fnExactLeastOddSpec)

/-- ITS FALSE NEIGHBOUR: 'it returns false'. Refute it at one input. -/
def fnExactLeastOddWrong : ChangeSpec := { name := "fnExactLeastOdd", fn := fun _ => fun
  | [d] => { results := [.lit (.bool false)], args := [d] }
  | _ => none }
def FnExactLeastOddWrongFalsely : Prop := fnExactLeastOddRow.holds Try.pinned (OpenSpec.ofChange fnExactLeastOddWrong)

/-- 'laws.FnExactLeastEven': WHATEVER THE INPUT: true; the input reads as it did. -/
def fnExactLeastEvenSpec : ChangeSpec := { name := "fnExactLeastEven", fn := fun _ => fun
  | [d] => { results := [.lit (.bool true)], args := [d] }
  | _ => none }
def fnExactLeastEvenRow : OpenClaim := { program := "ytmkpbfghnkmcgaa", sum := "9e0837dc5ba02a405098185caa5268a2ebc1f159da063137a3fe1aa830e1572b", func := "loop.example/g00739/laws.FnExactLeastEven", spec := "fnExactLeastEven", plainKeys := false, apart := false }
def FnExactLeastEvenSaid : Prop := fnExactLeastEvenRow.holds Try.pinned (OpenSpec.ofChange fnExactLeastEvenSpec)

/-- ITS FALSE NEIGHBOUR: 'it returns false'. Refute it at one input. -/
def fnExactLeastEvenWrong : ChangeSpec := { name := "fnExactLeastEven", fn := fun _ => fun
  | [d] => { results := [.lit (.bool false)], args := [d] }
  | _ => none }
def FnExactLeastEvenWrongFalsely : Prop := fnExactLeastEvenRow.holds Try.pinned (OpenSpec.ofChange fnExactLeastEvenWrong)

/- THE SECOND FORM. 'bulk': how many values and letters a reading holds, each counted each time it is reached (what is shared counts as often as it is met; a slice's spare places count too). A statement '..UptoSaid' is the law's where the arguments, and the package variables that the reading takes, are together of bulk at most 1048576: NARROWER than '..Said'. Prove '..Said' where nothing that the law and all that it calls make is longer than what came in: it says more and counts as full. Else prove '..UptoSaid'. A law counts once. -/
mutual
def uptoBulk {H : Type} : DataW H → Nat
  | .lit (.string bytes) => bytes.length + 1
  | .lit _ => 1
  | .nil => 1
  | .ptr d => uptoBulk d + 1
  | .slice elems spare => uptoBulkAll elems + uptoBulkAll spare + 1
  | .agg parts => uptoBulkAll parts + 1
  | .iface _ d => uptoBulk d + 1
  | .map entries => uptoBulkEntries entries + 1
  | .held _ => 1
def uptoBulkAll {H : Type} : List (DataW H) → Nat
  | [] => 0
  | d :: r => uptoBulk d + uptoBulkAll r
def uptoBulkEntries {H : Type} : List (Lit × DataW H) → Nat
  | [] => 0
  | x :: r => uptoBulkEntry x + uptoBulkEntries r
def uptoBulkEntry {H : Type} : Lit × DataW H → Nat
  | (.string bytes, d) => bytes.length + uptoBulk d + 1
  | (_, d) => uptoBulk d + 1
 end
def uptoSmall : (H : Type) → List (DataW H) → Bool := fun _ ds => decide (uptoBulkAll ds ≤ 1048576)
def OpenSpec.upto (s : _root_.Go.ChangeSpec) : _root_.Go.OpenSpec := { _root_.Go.OpenSpec.ofChange s with cond := some uptoSmall }

/-- 'laws.FnParas', WHERE WHAT IT READS IS OF BULK AT MOST 1048576: true; the input reads as it did. -/
def fnParasUptoRow : OpenClaim := { program := "ytmkpbfghnkmcgaa", sum := "9e0837dc5ba02a405098185caa5268a2ebc1f159da063137a3fe1aa830e1572b", func := "loop.example/g00739/laws.FnParas", spec := "fnParas", plainKeys := false, apart := false, narrowed := true }
def FnParasUptoSaid : Prop := fnParasUptoRow.holds Try.pinned (OpenSpec.upto fnParasSpec)

/-- 'laws.FnDeeps', WHERE WHAT IT READS IS OF BULK AT MOST 1048576: true; the input reads as it did. -/
def fnDeepsUptoRow : OpenClaim := { program := "ytmkpbfghnkmcgaa", sum := "9e0837dc5ba02a405098185caa5268a2ebc1f159da063137a3fe1aa830e1572b", func := "loop.example/g00739/laws.FnDeeps", spec := "fnDeeps", unfollowed := true, recurses := true, plainKeys := false, apart := false, narrowed := true }
def FnDeepsUptoSaid : Prop := fnDeepsUptoRow.holds Try.pinned (OpenSpec.upto fnDeepsSpec)

/-- 'laws.FnExactMatchesOf', WHERE WHAT IT READS IS OF BULK AT MOST 1048576: true; the input reads as it did. -/
def fnExactMatchesOfUptoRow : OpenClaim := { program := "ytmkpbfghnkmcgaa", sum := "9e0837dc5ba02a405098185caa5268a2ebc1f159da063137a3fe1aa830e1572b", func := "loop.example/g00739/laws.FnExactMatchesOf", spec := "fnExactMatchesOf", plainKeys := false, apart := false, narrowed := true }
def FnExactMatchesOfUptoSaid : Prop := fnExactMatchesOfUptoRow.holds Try.pinned (OpenSpec.upto fnExactMatchesOfSpec)

/-- 'laws.FnExactBaseLevel', WHERE WHAT IT READS IS OF BULK AT MOST 1048576: true; the input reads as it did. -/
def fnExactBaseLevelUptoRow : OpenClaim := { program := "ytmkpbfghnkmcgaa", sum := "9e0837dc5ba02a405098185caa5268a2ebc1f159da063137a3fe1aa830e1572b", func := "loop.example/g00739/laws.FnExactBaseLevel", spec := "fnExactBaseLevel", plainKeys := false, apart := false, narrowed := true }
def FnExactBaseLevelUptoSaid : Prop := fnExactBaseLevelUptoRow.holds Try.pinned (OpenSpec.upto fnExactBaseLevelSpec)

/-- 'laws.FnExactParaFault', WHERE WHAT IT READS IS OF BULK AT MOST 1048576: true; the input reads as it did. -/
def fnExactParaFaultUptoRow : OpenClaim := { program := "ytmkpbfghnkmcgaa", sum := "9e0837dc5ba02a405098185caa5268a2ebc1f159da063137a3fe1aa830e1572b", func := "loop.example/g00739/laws.FnExactParaFault", spec := "fnExactParaFault", plainKeys := false, apart := false, narrowed := true }
def FnExactParaFaultUptoSaid : Prop := fnExactParaFaultUptoRow.holds Try.pinned (OpenSpec.upto fnExactParaFaultSpec)

/-- 'laws.FnExactExplicitOf', WHERE WHAT IT READS IS OF BULK AT MOST 1048576: true; the input reads as it did. -/
def fnExactExplicitOfUptoRow : OpenClaim := { program := "ytmkpbfghnkmcgaa", sum := "9e0837dc5ba02a405098185caa5268a2ebc1f159da063137a3fe1aa830e1572b", func := "loop.example/g00739/laws.FnExactExplicitOf", spec := "fnExactExplicitOf", unfollowed := true, recurses := true, plainKeys := false, apart := false, narrowed := true }
def FnExactExplicitOfUptoSaid : Prop := fnExactExplicitOfUptoRow.holds Try.pinned (OpenSpec.upto fnExactExplicitOfSpec)

/-- 'laws.FnExactLeastOdd', WHERE WHAT IT READS IS OF BULK AT MOST 1048576: true; the input reads as it did. -/
def fnExactLeastOddUptoRow : OpenClaim := { program := "ytmkpbfghnkmcgaa", sum := "9e0837dc5ba02a405098185caa5268a2ebc1f159da063137a3fe1aa830e1572b", func := "loop.example/g00739/laws.FnExactLeastOdd", spec := "fnExactLeastOdd", plainKeys := false, apart := false, narrowed := true }
def FnExactLeastOddUptoSaid : Prop := fnExactLeastOddUptoRow.holds Try.pinned (OpenSpec.upto fnExactLeastOddSpec)

/-- 'laws.FnExactLeastEven', WHERE WHAT IT READS IS OF BULK AT MOST 1048576: true; the input reads as it did. -/
def fnExactLeastEvenUptoRow : OpenClaim := { program := "ytmkpbfghnkmcgaa", sum := "9e0837dc5ba02a405098185caa5268a2ebc1f159da063137a3fe1aa830e1572b", func := "loop.example/g00739/laws.FnExactLeastEven", spec := "fnExactLeastEven", plainKeys := false, apart := false, narrowed := true }
def FnExactLeastEvenUptoSaid : Prop := fnExactLeastEvenUptoRow.holds Try.pinned (OpenSpec.upto fnExactLeastEvenSpec)

end Rows
end Go.Proofs.Ytmkpbfghnkmcgaa
