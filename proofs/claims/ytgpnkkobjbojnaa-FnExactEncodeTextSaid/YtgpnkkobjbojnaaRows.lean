/-
  No cell of these rows narrows 'for every input' (looked for: loops, veiled, ifaces, maps, wideKeys, modest, calm, conditions, laid).
  DERIVED. THE GIVEN ROWS OF THIS SEAT. 3 by the template 'for every input the law returns true; each argument reads behind the call as it read before'; 0 by the template 'total and deterministic' (their statements: YtgpnkkobjbojnaaTotals.lean).
  GIVEN WITH THE SEED: the statements are not yours to turn. If you find one false, say at which input.
  Laid BY PROGRAM, IN A SANDBOX (cutbox-rows.mjs): the forced cells as the released guide's own fill.sh prints them over the translation f091b34b0c7c0419… (all of the seat's roots in one cut). By AI agents, Wed Nov 11 2026. No macro, syntax, notation, axiom, sorry.
-/
import Derived.Test.YtgpnkkobjbojnaaChecked
import GoSem.Claim
import GoSem.ClaimJoined
import GoSem.ClaimMapViews
import Derived.JoinedTies
import Derived.KernelRfl
namespace Go.Proofs.Ytgpnkkobjbojnaa
/- THE CELL 'sum', in the pinned program and in every row, IS THE sha256 OF THE DUMP (.gsa) THAT YtgpnkkobjbojnaaProg.lean LOADS. Nothing in Lean hashes anything: it is a label: what it is worth is what the hold of that sum in a sandbox is worth. -/
noncomputable def Try.pinned : Pinned := { name := "ytgpnkkobjbojnaa", sum := "f091b34b0c7c04199dd285a309906ace3475d64dd224a218da90dab31a9a4649", checked := Try.checked }
namespace Rows
def none {H : Type} : Left H := { results := [], args := [] }

/-- 'laws.FnExactIsChar': WHATEVER THE INPUT: true; the input reads as it did. -/
def fnExactIsCharSpec : ChangeSpec := { name := "fnExactIsChar", fn := fun _ => fun
  | [d] => { results := [.lit (.bool true)], args := [d] }
  | _ => none }
def fnExactIsCharRow : OpenClaim := { program := "ytgpnkkobjbojnaa", sum := "f091b34b0c7c04199dd285a309906ace3475d64dd224a218da90dab31a9a4649", func := "loop.example/g00739/laws.FnExactIsChar", spec := "fnExactIsChar", apart := false }
def FnExactIsCharSaid : Prop := fnExactIsCharRow.holds Try.pinned (OpenSpec.ofChange fnExactIsCharSpec)

/-- ITS FALSE NEIGHBOUR: 'it returns false'. Refute it at one input. -/
def fnExactIsCharWrong : ChangeSpec := { name := "fnExactIsChar", fn := fun _ => fun
  | [d] => { results := [.lit (.bool false)], args := [d] }
  | _ => none }
def FnExactIsCharWrongFalsely : Prop := fnExactIsCharRow.holds Try.pinned (OpenSpec.ofChange fnExactIsCharWrong)

/-- 'laws.FnExactEncodeText': WHATEVER THE INPUT: true; the input reads as it did. -/
def fnExactEncodeTextSpec : ChangeSpec := { name := "fnExactEncodeText", fn := fun _ => fun
  | [d] => { results := [.lit (.bool true)], args := [d] }
  | _ => none }
def fnExactEncodeTextRow : OpenClaim := { program := "ytgpnkkobjbojnaa", sum := "f091b34b0c7c04199dd285a309906ace3475d64dd224a218da90dab31a9a4649", func := "loop.example/g00739/laws.FnExactEncodeText", spec := "fnExactEncodeText", apart := false }
def FnExactEncodeTextSaid : Prop := fnExactEncodeTextRow.holds Try.pinned (OpenSpec.ofChange fnExactEncodeTextSpec)

/-- ITS FALSE NEIGHBOUR: 'it returns false'. Refute it at one input. -/
def fnExactEncodeTextWrong : ChangeSpec := { name := "fnExactEncodeText", fn := fun _ => fun
  | [d] => { results := [.lit (.bool false)], args := [d] }
  | _ => none }
def FnExactEncodeTextWrongFalsely : Prop := fnExactEncodeTextRow.holds Try.pinned (OpenSpec.ofChange fnExactEncodeTextWrong)

/-- 'laws.FnExactSameTexts': WHATEVER THE INPUT: true; the input reads as it did. -/
def fnExactSameTextsSpec : ChangeSpec := { name := "fnExactSameTexts", fn := fun _ => fun
  | [d1, d2] => { results := [.lit (.bool true)], args := [d1, d2] }
  | _ => none }
def fnExactSameTextsRow : OpenClaim := { program := "ytgpnkkobjbojnaa", sum := "f091b34b0c7c04199dd285a309906ace3475d64dd224a218da90dab31a9a4649", func := "loop.example/g00739/laws.FnExactSameTexts", spec := "fnExactSameTexts", apart := false }
def FnExactSameTextsSaid : Prop := fnExactSameTextsRow.holds Try.pinned (OpenSpec.ofChange fnExactSameTextsSpec)

/-- ITS FALSE NEIGHBOUR: 'it returns false'. Refute it at one input. -/
def fnExactSameTextsWrong : ChangeSpec := { name := "fnExactSameTexts", fn := fun _ => fun
  | [d1, d2] => { results := [.lit (.bool false)], args := [d1, d2] }
  | _ => none }
def FnExactSameTextsWrongFalsely : Prop := fnExactSameTextsRow.holds Try.pinned (OpenSpec.ofChange fnExactSameTextsWrong)

/- THE SECOND FORM. 'bulk': how many values and letters a reading holds, each counted each time it is reached (what is shared counts as often as it is met; a slice's spare places count too). A statement '..UptoSaid' is the law's where the arguments, and the package variables that the reading takes, are together of bulk at most 1048576: NARROWER than '..Said'. Prove '..Said' where nothing that the law and all that it calls make is longer than what came in: it says more and counts as full. Else prove '..UptoSaid'. A law counts once. -/
mutual
def uptoBulk {H : Type} : DataW H → Nat
  | .lit (.string bytes) => bytes.length + 1
  | .lit _ => 1
  | .nil => 1
  | .ptr d => uptoBulk d + 1
  | .slice elems spare => uptoBulkAll elems + uptoBulkAll spare + 1
  | .agg parts => uptoBulkAll parts + 1
  | .iface _ d => uptoBulk d + 1
  | .map entries => uptoBulkEntries entries + 1
  | .held _ => 1
def uptoBulkAll {H : Type} : List (DataW H) → Nat
  | [] => 0
  | d :: r => uptoBulk d + uptoBulkAll r
def uptoBulkEntries {H : Type} : List (Lit × DataW H) → Nat
  | [] => 0
  | x :: r => uptoBulkEntry x + uptoBulkEntries r
def uptoBulkEntry {H : Type} : Lit × DataW H → Nat
  | (.string bytes, d) => bytes.length + uptoBulk d + 1
  | (_, d) => uptoBulk d + 1
 end
def uptoSmall : (H : Type) → List (DataW H) → Bool := fun _ ds => decide (uptoBulkAll ds ≤ 1048576)
def OpenSpec.upto (s : _root_.Go.ChangeSpec) : _root_.Go.OpenSpec := { _root_.Go.OpenSpec.ofChange s with cond := some uptoSmall }

/-- 'laws.FnExactIsChar', WHERE WHAT IT READS IS OF BULK AT MOST 1048576: true; the input reads as it did. -/
def fnExactIsCharUptoRow : OpenClaim := { program := "ytgpnkkobjbojnaa", sum := "f091b34b0c7c04199dd285a309906ace3475d64dd224a218da90dab31a9a4649", func := "loop.example/g00739/laws.FnExactIsChar", spec := "fnExactIsChar", apart := false, narrowed := true }
def FnExactIsCharUptoSaid : Prop := fnExactIsCharUptoRow.holds Try.pinned (OpenSpec.upto fnExactIsCharSpec)

/-- 'laws.FnExactEncodeText', WHERE WHAT IT READS IS OF BULK AT MOST 1048576: true; the input reads as it did. -/
def fnExactEncodeTextUptoRow : OpenClaim := { program := "ytgpnkkobjbojnaa", sum := "f091b34b0c7c04199dd285a309906ace3475d64dd224a218da90dab31a9a4649", func := "loop.example/g00739/laws.FnExactEncodeText", spec := "fnExactEncodeText", apart := false, narrowed := true }
def FnExactEncodeTextUptoSaid : Prop := fnExactEncodeTextUptoRow.holds Try.pinned (OpenSpec.upto fnExactEncodeTextSpec)

/-- 'laws.FnExactSameTexts', WHERE WHAT IT READS IS OF BULK AT MOST 1048576: true; the input reads as it did. -/
def fnExactSameTextsUptoRow : OpenClaim := { program := "ytgpnkkobjbojnaa", sum := "f091b34b0c7c04199dd285a309906ace3475d64dd224a218da90dab31a9a4649", func := "loop.example/g00739/laws.FnExactSameTexts", spec := "fnExactSameTexts", apart := false, narrowed := true }
def FnExactSameTextsUptoSaid : Prop := fnExactSameTextsUptoRow.holds Try.pinned (OpenSpec.upto fnExactSameTextsSpec)

end Rows
end Go.Proofs.Ytgpnkkobjbojnaa
