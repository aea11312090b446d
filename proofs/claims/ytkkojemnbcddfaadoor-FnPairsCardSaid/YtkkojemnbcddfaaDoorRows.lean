/-
  NARROWER THAN 'FOR EVERY INPUT', by the rows' own cells (each row's printed sentence says how): FnPairs: laid · FnSides: laid · FnExactPairsOf: laid · FnExactBracketsOf: laid · FnExactSidesOf: laid.
  DERIVED. THE GIVEN ROWS OF THIS SEAT. 5 by the template 'for every input the law returns true; each argument reads behind the call as it read before'; 0 by the template 'total and deterministic' (their statements: YtkkojemnbcddfaaDoorTotals.lean).
  GIVEN WITH THE SEED: the statements are not yours to turn. If you find one false, say at which input.
  Laid BY PROGRAM, IN A SANDBOX (cutbox-rows.mjs): the forced cells as the released guide's own fill.sh prints them over the translation 4ae6f86173acd0cb… (all of the seat's roots in one cut). By AI agents, Wed Nov 11 2026. No macro, syntax, notation, axiom, sorry.
-/
import Derived.Test.YtkkojemnbcddfaaDoorChecked
import GoSem.Claim
import GoSem.ClaimJoined
import GoSem.ClaimMapViews
import Derived.JoinedTies
import Derived.KernelRfl
namespace Go.Proofs.YtkkojemnbcddfaaDoor
/- THE CELL 'sum', in the pinned program and in every row, IS THE sha256 OF THE DUMP (.gsa) THAT YtkkojemnbcddfaaDoorProg.lean LOADS. Nothing in Lean hashes anything: it is a label: what it is worth is what the hold of that sum in a sandbox is worth. -/
noncomputable def Tryd.pinned : Pinned := { name := "ytkkojemnbcddfaadoor", sum := "4ae6f86173acd0cb96a240f0a1c57508cd95867bf1d2bd455ffb4a601af048d5", checked := Tryd.checked }
namespace Rows
def none {H : Type} : Left H := { results := [], args := [] }

/- WHAT THE LISTED PACKAGE-LEVEL VARIABLES READ AS WHEN THE CALL BEGINS. Each datum BY PROGRAM (the guide's laid-datum.mjs) off the statement by which the dump's own 'gosem.cut.vars' lays the variable. In a bare row this is a premise. The card (YtkkojemnbcddfaaDoorCards.lean) ties it to the program's text. -/
def laid_loop_example_g00739_impl_pairs {H : Type} : DataW H := .agg [.agg [.lit (.int .i64 40), .lit (.int .i64 41), .lit (.int .i64 40)], .agg [.lit (.int .i64 60), .lit (.int .i64 62), .lit (.int .i64 0)], .agg [.lit (.int .i64 91), .lit (.int .i64 93), .lit (.int .i64 91)], .agg [.lit (.int .i64 123), .lit (.int .i64 125), .lit (.int .i64 123)], .agg [.lit (.int .i64 9001), .lit (.int .i64 9002), .lit (.int .i64 9001)], .agg [.lit (.int .i64 12296), .lit (.int .i64 12297), .lit (.int .i64 9001)]]

/-- 'laws.FnPairs': WHATEVER THE INPUT: true; the input reads as it did. -/
def fnPairsSpec : ChangeSpec := { name := "fnPairs", vars := ["loop.example/g00739/impl.pairs"], fn := fun _ => fun
  | [d, g1] => { results := [.lit (.bool true)], args := [d], vars := [g1] }
  | _ => none }
def fnPairsRow : OpenClaim := { program := "ytkkojemnbcddfaadoor", sum := "4ae6f86173acd0cb96a240f0a1c57508cd95867bf1d2bd455ffb4a601af048d5", func := "loop.example/g00739/laws.FnPairs", spec := "fnPairs", unfollowed := true, recurses := true, named := ["loop.example/g00739/impl.pairs"], apart := false, laid := [("loop.example/g00739/impl.pairs", laid_loop_example_g00739_impl_pairs)] }
def FnPairsSaid : Prop := fnPairsRow.holds Tryd.pinned (OpenSpec.ofChange fnPairsSpec)

/-- ITS FALSE NEIGHBOUR: 'it returns false'. Refute it at one input. -/
def fnPairsWrong : ChangeSpec := { name := "fnPairs", vars := ["loop.example/g00739/impl.pairs"], fn := fun _ => fun
  | [d, g1] => { results := [.lit (.bool false)], args := [d], vars := [g1] }
  | _ => none }
def FnPairsWrongFalsely : Prop := fnPairsRow.holds Tryd.pinned (OpenSpec.ofChange fnPairsWrong)

/-- 'laws.FnSides': WHATEVER THE INPUT: true; the input reads as it did. -/
def fnSidesSpec : ChangeSpec := { name := "fnSides", vars := ["loop.example/g00739/impl.pairs"], fn := fun _ => fun
  | [d, g1] => { results := [.lit (.bool true)], args := [d], vars := [g1] }
  | _ => none }
def fnSidesRow : OpenClaim := { program := "ytkkojemnbcddfaadoor", sum := "4ae6f86173acd0cb96a240f0a1c57508cd95867bf1d2bd455ffb4a601af048d5", func := "loop.example/g00739/laws.FnSides", spec := "fnSides", unfollowed := true, recurses := true, named := ["loop.example/g00739/impl.pairs"], apart := false, laid := [("loop.example/g00739/impl.pairs", laid_loop_example_g00739_impl_pairs)] }
def FnSidesSaid : Prop := fnSidesRow.holds Tryd.pinned (OpenSpec.ofChange fnSidesSpec)

/-- ITS FALSE NEIGHBOUR: 'it returns false'. Refute it at one input. -/
def fnSidesWrong : ChangeSpec := { name := "fnSides", vars := ["loop.example/g00739/impl.pairs"], fn := fun _ => fun
  | [d, g1] => { results := [.lit (.bool false)], args := [d], vars := [g1] }
  | _ => none }
def FnSidesWrongFalsely : Prop := fnSidesRow.holds Tryd.pinned (OpenSpec.ofChange fnSidesWrong)

/-- 'laws.FnExactPairsOf': WHATEVER THE INPUT: true; the input reads as it did. -/
def fnExactPairsOfSpec : ChangeSpec := { name := "fnExactPairsOf", vars := ["loop.example/g00739/impl.pairs"], fn := fun _ => fun
  | [d, g1] => { results := [.lit (.bool true)], args := [d], vars := [g1] }
  | _ => none }
def fnExactPairsOfRow : OpenClaim := { program := "ytkkojemnbcddfaadoor", sum := "4ae6f86173acd0cb96a240f0a1c57508cd95867bf1d2bd455ffb4a601af048d5", func := "loop.example/g00739/laws.FnExactPairsOf", spec := "fnExactPairsOf", unfollowed := true, recurses := true, named := ["loop.example/g00739/impl.pairs"], apart := false, laid := [("loop.example/g00739/impl.pairs", laid_loop_example_g00739_impl_pairs)] }
def FnExactPairsOfSaid : Prop := fnExactPairsOfRow.holds Tryd.pinned (OpenSpec.ofChange fnExactPairsOfSpec)

/-- ITS FALSE NEIGHBOUR: 'it returns false'. Refute it at one input. -/
def fnExactPairsOfWrong : ChangeSpec := { name := "fnExactPairsOf", vars := ["loop.example/g00739/impl.pairs"], fn := fun _ => fun
  | [d, g1] => { results := [.lit (.bool false)], args := [d], vars := [g1] }
  | _ => none }
def FnExactPairsOfWrongFalsely : Prop := fnExactPairsOfRow.holds Tryd.pinned (OpenSpec.ofChange fnExactPairsOfWrong)

/-- 'laws.FnExactBracketsOf': WHATEVER THE INPUT: true; the input reads as it did. -/
def fnExactBracketsOfSpec : ChangeSpec := { name := "fnExactBracketsOf", vars := ["loop.example/g00739/impl.pairs"], fn := fun _ => fun
  | [d, g1] => { results := [.lit (.bool true)], args := [d], vars := [g1] }
  | _ => none }
def fnExactBracketsOfRow : OpenClaim := { program := "ytkkojemnbcddfaadoor", sum := "4ae6f86173acd0cb96a240f0a1c57508cd95867bf1d2bd455ffb4a601af048d5", func := "loop.example/g00739/laws.FnExactBracketsOf", spec := "fnExactBracketsOf", unfollowed := true, recurses := true, named := ["loop.example/g00739/impl.pairs"], apart := false, laid := [("loop.example/g00739/impl.pairs", laid_loop_example_g00739_impl_pairs)] }
def FnExactBracketsOfSaid : Prop := fnExactBracketsOfRow.holds Tryd.pinned (OpenSpec.ofChange fnExactBracketsOfSpec)

/-- ITS FALSE NEIGHBOUR: 'it returns false'. Refute it at one input. -/
def fnExactBracketsOfWrong : ChangeSpec := { name := "fnExactBracketsOf", vars := ["loop.example/g00739/impl.pairs"], fn := fun _ => fun
  | [d, g1] => { results := [.lit (.bool false)], args := [d], vars := [g1] }
  | _ => none }
def FnExactBracketsOfWrongFalsely : Prop := fnExactBracketsOfRow.holds Tryd.pinned (OpenSpec.ofChange fnExactBracketsOfWrong)

/-- 'laws.FnExactSidesOf': WHATEVER THE INPUT: true; the input reads as it did. -/
def fnExactSidesOfSpec : ChangeSpec := { name := "fnExactSidesOf", vars := ["loop.example/g00739/impl.pairs"], fn := fun _ => fun
  | [d, g1] => { results := [.lit (.bool true)], args := [d], vars := [g1] }
  | _ => none }
def fnExactSidesOfRow : OpenClaim := { program := "ytkkojemnbcddfaadoor", sum := "4ae6f86173acd0cb96a240f0a1c57508cd95867bf1d2bd455ffb4a601af048d5", func := "loop.example/g00739/laws.FnExactSidesOf", spec := "fnExactSidesOf", unfollowed := true, recurses := true, named := ["loop.example/g00739/impl.pairs"], apart := false, laid := [("loop.example/g00739/impl.pairs", laid_loop_example_g00739_impl_pairs)] }
def FnExactSidesOfSaid : Prop := fnExactSidesOfRow.holds Tryd.pinned (OpenSpec.ofChange fnExactSidesOfSpec)

/-- ITS FALSE NEIGHBOUR: 'it returns false'. Refute it at one input. -/
def fnExactSidesOfWrong : ChangeSpec := { name := "fnExactSidesOf", vars := ["loop.example/g00739/impl.pairs"], fn := fun _ => fun
  | [d, g1] => { results := [.lit (.bool false)], args := [d], vars := [g1] }
  | _ => none }
def FnExactSidesOfWrongFalsely : Prop := fnExactSidesOfRow.holds Tryd.pinned (OpenSpec.ofChange fnExactSidesOfWrong)

/- THE SECOND FORM. 'bulk': how many values and letters a reading holds, each counted each time it is reached (what is shared counts as often as it is met; a slice's spare places count too). A statement '..UptoSaid' is the law's where the arguments, and the package variables that the reading takes, are together of bulk at most 1048576: NARROWER than '..Said'. Prove '..Said' where nothing that the law and all that it calls make is longer than what came in: it says more and counts as full. Else prove '..UptoSaid'. A law counts once. -/
mutual
def uptoBulk {H : Type} : DataW H → Nat
  | .lit (.string bytes) => bytes.length + 1
  | .lit _ => 1
  | .nil => 1
  | .ptr d => uptoBulk d + 1
  | .slice elems spare => uptoBulkAll elems + uptoBulkAll spare + 1
  | .agg parts => uptoBulkAll parts + 1
  | .iface _ d => uptoBulk d + 1
  | .map entries => uptoBulkEntries entries + 1
  | .held _ => 1
def uptoBulkAll {H : Type} : List (DataW H) → Nat
  | [] => 0
  | d :: r => uptoBulk d + uptoBulkAll r
def uptoBulkEntries {H : Type} : List (Lit × DataW H) → Nat
  | [] => 0
  | x :: r => uptoBulkEntry x + uptoBulkEntries r
def uptoBulkEntry {H : Type} : Lit × DataW H → Nat
  | (.string bytes, d) => bytes.length + uptoBulk d + 1
  | (_, d) => uptoBulk d + 1
 end
def uptoSmall : (H : Type) → List (DataW H) → Bool := fun _ ds => decide (uptoBulkAll ds ≤ 1048576)
def OpenSpec.upto (s : _root_.Go.ChangeSpec) : _root_.Go.OpenSpec := { _root_.Go.OpenSpec.ofChange s with cond := some uptoSmall }

/-- 'laws.FnPairs', WHERE WHAT IT READS IS OF BULK AT MOST 1048576: true; the input reads as it did. -/
def fnPairsUptoRow : OpenClaim := { program := "ytkkojemnbcddfaadoor", sum := "4ae6f86173acd0cb96a240f0a1c57508cd95867bf1d2bd455ffb4a601af048d5", func := "loop.example/g00739/laws.FnPairs", spec := "fnPairs", unfollowed := true, recurses := true, named := ["loop.example/g00739/impl.pairs"], apart := false, laid := [("loop.example/g00739/impl.pairs", laid_loop_example_g00739_impl_pairs)], narrowed := true }
def FnPairsUptoSaid : Prop := fnPairsUptoRow.holds Tryd.pinned (OpenSpec.upto fnPairsSpec)

/-- 'laws.FnSides', WHERE WHAT IT READS IS OF BULK AT MOST 1048576: true; the input reads as it did. -/
def fnSidesUptoRow : OpenClaim := { program := "ytkkojemnbcddfaadoor", sum := "4ae6f86173acd0cb96a240f0a1c57508cd95867bf1d2bd455ffb4a601af048d5", func := "loop.example/g00739/laws.FnSides", spec := "fnSides", unfollowed := true, recurses := true, named := ["loop.example/g00739/impl.pairs"], apart := false, laid := [("loop.example/g00739/impl.pairs", laid_loop_example_g00739_impl_pairs)], narrowed := true }
def FnSidesUptoSaid : Prop := fnSidesUptoRow.holds Tryd.pinned (OpenSpec.upto fnSidesSpec)

/-- 'laws.FnExactPairsOf', WHERE WHAT IT READS IS OF BULK AT MOST 1048576: true; the input reads as it did. -/
def fnExactPairsOfUptoRow : OpenClaim := { program := "ytkkojemnbcddfaadoor", sum := "4ae6f86173acd0cb96a240f0a1c57508cd95867bf1d2bd455ffb4a601af048d5", func := "loop.example/g00739/laws.FnExactPairsOf", spec := "fnExactPairsOf", unfollowed := true, recurses := true, named := ["loop.example/g00739/impl.pairs"], apart := false, laid := [("loop.example/g00739/impl.pairs", laid_loop_example_g00739_impl_pairs)], narrowed := true }
def FnExactPairsOfUptoSaid : Prop := fnExactPairsOfUptoRow.holds Tryd.pinned (OpenSpec.upto fnExactPairsOfSpec)

/-- 'laws.FnExactBracketsOf', WHERE WHAT IT READS IS OF BULK AT MOST 1048576: true; the input reads as it did. -/
def fnExactBracketsOfUptoRow : OpenClaim := { program := "ytkkojemnbcddfaadoor", sum := "4ae6f86173acd0cb96a240f0a1c57508cd95867bf1d2bd455ffb4a601af048d5", func := "loop.example/g00739/laws.FnExactBracketsOf", spec := "fnExactBracketsOf", unfollowed := true, recurses := true, named := ["loop.example/g00739/impl.pairs"], apart := false, laid := [("loop.example/g00739/impl.pairs", laid_loop_example_g00739_impl_pairs)], narrowed := true }
def FnExactBracketsOfUptoSaid : Prop := fnExactBracketsOfUptoRow.holds Tryd.pinned (OpenSpec.upto fnExactBracketsOfSpec)

/-- 'laws.FnExactSidesOf', WHERE WHAT IT READS IS OF BULK AT MOST 1048576: true; the input reads as it did. -/
def fnExactSidesOfUptoRow : OpenClaim := { program := "ytkkojemnbcddfaadoor", sum := "4ae6f86173acd0cb96a240f0a1c57508cd95867bf1d2bd455ffb4a601af048d5", func := "loop.example/g00739/laws.FnExactSidesOf", spec := "fnExactSidesOf", unfollowed := true, recurses := true, named := ["loop.example/g00739/impl.pairs"], apart := false, laid := [("loop.example/g00739/impl.pairs", laid_loop_example_g00739_impl_pairs)], narrowed := true }
def FnExactSidesOfUptoSaid : Prop := fnExactSidesOfUptoRow.holds Tryd.pinned (OpenSpec.upto fnExactSidesOfSpec)

end Rows
end Go.Proofs.YtkkojemnbcddfaaDoor
