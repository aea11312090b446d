/-
  No cell of these rows narrows 'for every input' (looked for: loops, veiled, ifaces, maps, wideKeys, modest, calm, conditions, laid).
  DERIVED. THE GIVEN ROWS OF THIS SEAT. 2 by the template 'for every input the law returns true; each argument reads behind the call as it read before'; 0 by the template 'total and deterministic' (their statements: YtkkojemnbcddfaaTotals.lean).
  GIVEN WITH THE SEED: the statements are not yours to turn. If you find one false, say at which input.
  Laid BY PROGRAM, IN A SANDBOX (cutbox-rows.mjs): the forced cells as the released guide's own fill.sh prints them over the translation afb1321305548406… (all of the seat's roots in one cut). By AI agents, Wed Nov 11 2026. No macro, syntax, notation, axiom, sorry.
-/
import Derived.Test.YtkkojemnbcddfaaChecked
import GoSem.Claim
import GoSem.ClaimJoined
import GoSem.ClaimMapViews
import Derived.JoinedTies
import Derived.KernelRfl
namespace Go.Proofs.Ytkkojemnbcddfaa
/- THE CELL 'sum', in the pinned program and in every row, IS THE sha256 OF THE DUMP (.gsa) THAT YtkkojemnbcddfaaProg.lean LOADS. Nothing in Lean hashes anything: it is a label: what it is worth is what the hold of that sum in a sandbox is worth. -/
noncomputable def Try.pinned : Pinned := { name := "ytkkojemnbcddfaa", sum := "afb132130554840677b73f65a0a414057296ab51b4faf53aaaf422c93d7e8d05", checked := Try.checked }
namespace Rows
def none {H : Type} : Left H := { results := [], args := [] }

/-- 'laws.FnExactPartFault': WHATEVER THE INPUT: true; the input reads as it did. -/
def fnExactPartFaultSpec : ChangeSpec := { name := "fnExactPartFault", fn := fun _ => fun
  | [d] => { results := [.lit (.bool true)], args := [d] }
  | _ => none }
def fnExactPartFaultRow : OpenClaim := { program := "ytkkojemnbcddfaa", sum := "afb132130554840677b73f65a0a414057296ab51b4faf53aaaf422c93d7e8d05", func := "loop.example/g00739/laws.FnExactPartFault", spec := "fnExactPartFault", apart := false }
def FnExactPartFaultSaid : Prop := fnExactPartFaultRow.holds Try.pinned (OpenSpec.ofChange fnExactPartFaultSpec)

/-- ITS FALSE NEIGHBOUR: 'it returns false'. Refute it at one input. -/
def fnExactPartFaultWrong : ChangeSpec := { name := "fnExactPartFault", fn := fun _ => fun
  | [d] => { results := [.lit (.bool false)], args := [d] }
  | _ => none }
def FnExactPartFaultWrongFalsely : Prop := fnExactPartFaultRow.holds Try.pinned (OpenSpec.ofChange fnExactPartFaultWrong)

/-- 'laws.FnExactNeutralsOf': WHATEVER THE INPUT: true; the input reads as it did. -/
def fnExactNeutralsOfSpec : ChangeSpec := { name := "fnExactNeutralsOf", fn := fun _ => fun
  | [d] => { results := [.lit (.bool true)], args := [d] }
  | _ => none }
def fnExactNeutralsOfRow : OpenClaim := { program := "ytkkojemnbcddfaa", sum := "afb132130554840677b73f65a0a414057296ab51b4faf53aaaf422c93d7e8d05", func := "loop.example/g00739/laws.FnExactNeutralsOf", spec := "fnExactNeutralsOf", unfollowed := true, recurses := true, apart := false }
def FnExactNeutralsOfSaid : Prop := fnExactNeutralsOfRow.holds Try.pinned (OpenSpec.ofChange fnExactNeutralsOfSpec)

/-- ITS FALSE NEIGHBOUR: 'it returns false'. Refute it at one input. -/
def fnExactNeutralsOfWrong : ChangeSpec := { name := "fnExactNeutralsOf", fn := fun _ => fun
  | [d] => { results := [.lit (.bool false)], args := [d] }
  | _ => none }
def FnExactNeutralsOfWrongFalsely : Prop := fnExactNeutralsOfRow.holds Try.pinned (OpenSpec.ofChange fnExactNeutralsOfWrong)

/- THE SECOND FORM. 'bulk': how many values and letters a reading holds, each counted each time it is reached (what is shared counts as often as it is met; a slice's spare places count too). A statement '..UptoSaid' is the law's where the arguments, and the package variables that the reading takes, are together of bulk at most 1048576: NARROWER than '..Said'. Prove '..Said' where nothing that the law and all that it calls make is longer than what came in: it says more and counts as full. Else prove '..UptoSaid'. A law counts once. -/
mutual
def uptoBulk {H : Type} : DataW H → Nat
  | .lit (.string bytes) => bytes.length + 1
  | .lit _ => 1
  | .nil => 1
  | .ptr d => uptoBulk d + 1
  | .slice elems spare => uptoBulkAll elems + uptoBulkAll spare + 1
  | .agg parts => uptoBulkAll parts + 1
  | .iface _ d => uptoBulk d + 1
  | .map entries => uptoBulkEntries entries + 1
  | .held _ => 1
def uptoBulkAll {H : Type} : List (DataW H) → Nat
  | [] => 0
  | d :: r => uptoBulk d + uptoBulkAll r
def uptoBulkEntries {H : Type} : List (Lit × DataW H) → Nat
  | [] => 0
  | x :: r => uptoBulkEntry x + uptoBulkEntries r
def uptoBulkEntry {H : Type} : Lit × DataW H → Nat
  | (.string bytes, d) => bytes.length + uptoBulk d + 1
  | (_, d) => uptoBulk d + 1
 end
def uptoSmall : (H : Type) → List (DataW H) → Bool := fun _ ds => decide (uptoBulkAll ds ≤ 1048576)
def OpenSpec.upto (s : _root_.Go.ChangeSpec) : _root_.Go.OpenSpec := { _root_.Go.OpenSpec.ofChange s with cond := some uptoSmall }

/-- 'laws.FnExactPartFault', WHERE WHAT IT READS IS OF BULK AT MOST 1048576: true; the input reads as it did. -/
def fnExactPartFaultUptoRow : OpenClaim := { program := "ytkkojemnbcddfaa", sum := "afb132130554840677b73f65a0a414057296ab51b4faf53aaaf422c93d7e8d05", func := "loop.example/g00739/laws.FnExactPartFault", spec := "fnExactPartFault", apart := false, narrowed := true }
def FnExactPartFaultUptoSaid : Prop := fnExactPartFaultUptoRow.holds Try.pinned (OpenSpec.upto fnExactPartFaultSpec)

/-- 'laws.FnExactNeutralsOf', WHERE WHAT IT READS IS OF BULK AT MOST 1048576: true; the input reads as it did. -/
def fnExactNeutralsOfUptoRow : OpenClaim := { program := "ytkkojemnbcddfaa", sum := "afb132130554840677b73f65a0a414057296ab51b4faf53aaaf422c93d7e8d05", func := "loop.example/g00739/laws.FnExactNeutralsOf", spec := "fnExactNeutralsOf", unfollowed := true, recurses := true, apart := false, narrowed := true }
def FnExactNeutralsOfUptoSaid : Prop := fnExactNeutralsOfUptoRow.holds Try.pinned (OpenSpec.upto fnExactNeutralsOfSpec)

end Rows
end Go.Proofs.Ytkkojemnbcddfaa
