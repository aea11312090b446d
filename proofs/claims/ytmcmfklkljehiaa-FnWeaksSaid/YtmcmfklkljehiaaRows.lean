/-
  No cell of these rows narrows 'for every input' (looked for: loops, veiled, ifaces, maps, wideKeys, modest, calm, conditions, laid).
  DERIVED. THE GIVEN ROWS OF THIS SEAT. 6 by the template 'for every input the law returns true; each argument reads behind the call as it read before'; 0 by the template 'total and deterministic' (their statements: YtmcmfklkljehiaaTotals.lean).
  GIVEN WITH THE SEED: the statements are not yours to turn. If you find one false, say at which input.
  Laid BY PROGRAM, IN A SANDBOX (cutbox-rows.mjs): the forced cells as the released guide's own fill.sh prints them over the translation 5ffef6f1a9cef755… (all of the seat's roots in one cut). By AI agents, Wed Nov 11 2026. No macro, syntax, notation, axiom, sorry.
-/
import Derived.Test.YtmcmfklkljehiaaChecked
import GoSem.Claim
import GoSem.ClaimJoined
import GoSem.ClaimMapViews
import Derived.JoinedTies
import Derived.KernelRfl
namespace Go.Proofs.Ytmcmfklkljehiaa
/- THE CELL 'sum', in the pinned program and in every row, IS THE sha256 OF THE DUMP (.gsa) THAT YtmcmfklkljehiaaProg.lean LOADS. Nothing in Lean hashes anything: it is a label: what it is worth is what the hold of that sum in a sandbox is worth. -/
noncomputable def Try.pinned : Pinned := { name := "ytmcmfklkljehiaa", sum := "5ffef6f1a9cef7550da891eee10172df08252cca3ce412640d347cc299baaefe", checked := Try.checked }
namespace Rows
def none {H : Type} : Left H := { results := [], args := [] }

/-- 'laws.FnWeaks': WHATEVER THE INPUT: true; the input reads as it did. -/
def fnWeaksSpec : ChangeSpec := { name := "fnWeaks", fn := fun _ => fun
  | [d] => { results := [.lit (.bool true)], args := [d] }
  | _ => none }
def fnWeaksRow : OpenClaim := { program := "ytmcmfklkljehiaa", sum := "5ffef6f1a9cef7550da891eee10172df08252cca3ce412640d347cc299baaefe", func := "loop.example/g00739/laws.FnWeaks", spec := "fnWeaks", unfollowed := true, recurses := true, apart := false }
def FnWeaksSaid : Prop := fnWeaksRow.holds Try.pinned (OpenSpec.ofChange fnWeaksSpec)

/-- ITS FALSE NEIGHBOUR: 'it returns false'. Refute it at one input. -/
def fnWeaksWrong : ChangeSpec := { name := "fnWeaks", fn := fun _ => fun
  | [d] => { results := [.lit (.bool false)], args := [d] }
  | _ => none }
def FnWeaksWrongFalsely : Prop := fnWeaksRow.holds Try.pinned (OpenSpec.ofChange fnWeaksWrong)

/-- 'laws.FnExactClassesFault': WHATEVER THE INPUT: true; the input reads as it did. -/
def fnExactClassesFaultSpec : ChangeSpec := { name := "fnExactClassesFault", fn := fun _ => fun
  | [d1, d2] => { results := [.lit (.bool true)], args := [d1, d2] }
  | _ => none }
def fnExactClassesFaultRow : OpenClaim := { program := "ytmcmfklkljehiaa", sum := "5ffef6f1a9cef7550da891eee10172df08252cca3ce412640d347cc299baaefe", func := "loop.example/g00739/laws.FnExactClassesFault", spec := "fnExactClassesFault", apart := false }
def FnExactClassesFaultSaid : Prop := fnExactClassesFaultRow.holds Try.pinned (OpenSpec.ofChange fnExactClassesFaultSpec)

/-- ITS FALSE NEIGHBOUR: 'it returns false'. Refute it at one input. -/
def fnExactClassesFaultWrong : ChangeSpec := { name := "fnExactClassesFault", fn := fun _ => fun
  | [d1, d2] => { results := [.lit (.bool false)], args := [d1, d2] }
  | _ => none }
def FnExactClassesFaultWrongFalsely : Prop := fnExactClassesFaultRow.holds Try.pinned (OpenSpec.ofChange fnExactClassesFaultWrong)

/-- 'laws.FnExactMarksOf': WHATEVER THE INPUT: true; the input reads as it did. -/
def fnExactMarksOfSpec : ChangeSpec := { name := "fnExactMarksOf", fn := fun _ => fun
  | [d1, d2] => { results := [.lit (.bool true)], args := [d1, d2] }
  | _ => none }
def fnExactMarksOfRow : OpenClaim := { program := "ytmcmfklkljehiaa", sum := "5ffef6f1a9cef7550da891eee10172df08252cca3ce412640d347cc299baaefe", func := "loop.example/g00739/laws.FnExactMarksOf", spec := "fnExactMarksOf", unfollowed := true, recurses := true, apart := false }
def FnExactMarksOfSaid : Prop := fnExactMarksOfRow.holds Try.pinned (OpenSpec.ofChange fnExactMarksOfSpec)

/-- ITS FALSE NEIGHBOUR: 'it returns false'. Refute it at one input. -/
def fnExactMarksOfWrong : ChangeSpec := { name := "fnExactMarksOf", fn := fun _ => fun
  | [d1, d2] => { results := [.lit (.bool false)], args := [d1, d2] }
  | _ => none }
def FnExactMarksOfWrongFalsely : Prop := fnExactMarksOfRow.holds Try.pinned (OpenSpec.ofChange fnExactMarksOfWrong)

/-- 'laws.FnExactNumbersOf': WHATEVER THE INPUT: true; the input reads as it did. -/
def fnExactNumbersOfSpec : ChangeSpec := { name := "fnExactNumbersOf", fn := fun _ => fun
  | [d1, d2] => { results := [.lit (.bool true)], args := [d1, d2] }
  | _ => none }
def fnExactNumbersOfRow : OpenClaim := { program := "ytmcmfklkljehiaa", sum := "5ffef6f1a9cef7550da891eee10172df08252cca3ce412640d347cc299baaefe", func := "loop.example/g00739/laws.FnExactNumbersOf", spec := "fnExactNumbersOf", unfollowed := true, recurses := true, apart := false }
def FnExactNumbersOfSaid : Prop := fnExactNumbersOfRow.holds Try.pinned (OpenSpec.ofChange fnExactNumbersOfSpec)

/-- ITS FALSE NEIGHBOUR: 'it returns false'. Refute it at one input. -/
def fnExactNumbersOfWrong : ChangeSpec := { name := "fnExactNumbersOf", fn := fun _ => fun
  | [d1, d2] => { results := [.lit (.bool false)], args := [d1, d2] }
  | _ => none }
def FnExactNumbersOfWrongFalsely : Prop := fnExactNumbersOfRow.holds Try.pinned (OpenSpec.ofChange fnExactNumbersOfWrong)

/-- 'laws.FnExactSignsOf': WHATEVER THE INPUT: true; the input reads as it did. -/
def fnExactSignsOfSpec : ChangeSpec := { name := "fnExactSignsOf", fn := fun _ => fun
  | [d1, d2] => { results := [.lit (.bool true)], args := [d1, d2] }
  | _ => none }
def fnExactSignsOfRow : OpenClaim := { program := "ytmcmfklkljehiaa", sum := "5ffef6f1a9cef7550da891eee10172df08252cca3ce412640d347cc299baaefe", func := "loop.example/g00739/laws.FnExactSignsOf", spec := "fnExactSignsOf", unfollowed := true, recurses := true, apart := false }
def FnExactSignsOfSaid : Prop := fnExactSignsOfRow.holds Try.pinned (OpenSpec.ofChange fnExactSignsOfSpec)

/-- ITS FALSE NEIGHBOUR: 'it returns false'. Refute it at one input. -/
def fnExactSignsOfWrong : ChangeSpec := { name := "fnExactSignsOf", fn := fun _ => fun
  | [d1, d2] => { results := [.lit (.bool false)], args := [d1, d2] }
  | _ => none }
def FnExactSignsOfWrongFalsely : Prop := fnExactSignsOfRow.holds Try.pinned (OpenSpec.ofChange fnExactSignsOfWrong)

/-- 'laws.FnExactWeakOf': WHATEVER THE INPUT: true; the input reads as it did. -/
def fnExactWeakOfSpec : ChangeSpec := { name := "fnExactWeakOf", fn := fun _ => fun
  | [d1, d2] => { results := [.lit (.bool true)], args := [d1, d2] }
  | _ => none }
def fnExactWeakOfRow : OpenClaim := { program := "ytmcmfklkljehiaa", sum := "5ffef6f1a9cef7550da891eee10172df08252cca3ce412640d347cc299baaefe", func := "loop.example/g00739/laws.FnExactWeakOf", spec := "fnExactWeakOf", unfollowed := true, recurses := true, apart := false }
def FnExactWeakOfSaid : Prop := fnExactWeakOfRow.holds Try.pinned (OpenSpec.ofChange fnExactWeakOfSpec)

/-- ITS FALSE NEIGHBOUR: 'it returns false'. Refute it at one input. -/
def fnExactWeakOfWrong : ChangeSpec := { name := "fnExactWeakOf", fn := fun _ => fun
  | [d1, d2] => { results := [.lit (.bool false)], args := [d1, d2] }
  | _ => none }
def FnExactWeakOfWrongFalsely : Prop := fnExactWeakOfRow.holds Try.pinned (OpenSpec.ofChange fnExactWeakOfWrong)

/- THE SECOND FORM. 'bulk': how many values and letters a reading holds, each counted each time it is reached (what is shared counts as often as it is met; a slice's spare places count too). A statement '..UptoSaid' is the law's where the arguments, and the package variables that the reading takes, are together of bulk at most 1048576: NARROWER than '..Said'. Prove '..Said' where nothing that the law and all that it calls make is longer than what came in: it says more and counts as full. Else prove '..UptoSaid'. A law counts once. -/
mutual
def uptoBulk {H : Type} : DataW H → Nat
  | .lit (.string bytes) => bytes.length + 1
  | .lit _ => 1
  | .nil => 1
  | .ptr d => uptoBulk d + 1
  | .slice elems spare => uptoBulkAll elems + uptoBulkAll spare + 1
  | .agg parts => uptoBulkAll parts + 1
  | .iface _ d => uptoBulk d + 1
  | .map entries => uptoBulkEntries entries + 1
  | .held _ => 1
def uptoBulkAll {H : Type} : List (DataW H) → Nat
  | [] => 0
  | d :: r => uptoBulk d + uptoBulkAll r
def uptoBulkEntries {H : Type} : List (Lit × DataW H) → Nat
  | [] => 0
  | x :: r => uptoBulkEntry x + uptoBulkEntries r
def uptoBulkEntry {H : Type} : Lit × DataW H → Nat
  | (.string bytes, d) => bytes.length + uptoBulk d + 1
  | (_, d) => uptoBulk d + 1
 end
def uptoSmall : (H : Type) → List (DataW H) → Bool := fun _ ds => decide (uptoBulkAll ds ≤ 1048576)
def OpenSpec.upto (s : _root_.Go.ChangeSpec) : _root_.Go.OpenSpec := { _root_.Go.OpenSpec.ofChange s with cond := some uptoSmall }

/-- 'laws.FnWeaks', WHERE WHAT IT READS IS OF BULK AT MOST 1048576: true; the input reads as it did. -/
def fnWeaksUptoRow : OpenClaim := { program := "ytmcmfklkljehiaa", sum := "5ffef6f1a9cef7550da891eee10172df08252cca3ce412640d347cc299baaefe", func := "loop.example/g00739/laws.FnWeaks", spec := "fnWeaks", unfollowed := true, recurses := true, apart := false, narrowed := true }
def FnWeaksUptoSaid : Prop := fnWeaksUptoRow.holds Try.pinned (OpenSpec.upto fnWeaksSpec)

/-- 'laws.FnExactClassesFault', WHERE WHAT IT READS IS OF BULK AT MOST 1048576: true; the input reads as it did. -/
def fnExactClassesFaultUptoRow : OpenClaim := { program := "ytmcmfklkljehiaa", sum := "5ffef6f1a9cef7550da891eee10172df08252cca3ce412640d347cc299baaefe", func := "loop.example/g00739/laws.FnExactClassesFault", spec := "fnExactClassesFault", apart := false, narrowed := true }
def FnExactClassesFaultUptoSaid : Prop := fnExactClassesFaultUptoRow.holds Try.pinned (OpenSpec.upto fnExactClassesFaultSpec)

/-- 'laws.FnExactMarksOf', WHERE WHAT IT READS IS OF BULK AT MOST 1048576: true; the input reads as it did. -/
def fnExactMarksOfUptoRow : OpenClaim := { program := "ytmcmfklkljehiaa", sum := "5ffef6f1a9cef7550da891eee10172df08252cca3ce412640d347cc299baaefe", func := "loop.example/g00739/laws.FnExactMarksOf", spec := "fnExactMarksOf", unfollowed := true, recurses := true, apart := false, narrowed := true }
def FnExactMarksOfUptoSaid : Prop := fnExactMarksOfUptoRow.holds Try.pinned (OpenSpec.upto fnExactMarksOfSpec)

/-- 'laws.FnExactNumbersOf', WHERE WHAT IT READS IS OF BULK AT MOST 1048576: true; the input reads as it did. -/
def fnExactNumbersOfUptoRow : OpenClaim := { program := "ytmcmfklkljehiaa", sum := "5ffef6f1a9cef7550da891eee10172df08252cca3ce412640d347cc299baaefe", func := "loop.example/g00739/laws.FnExactNumbersOf", spec := "fnExactNumbersOf", unfollowed := true, recurses := true, apart := false, narrowed := true }
def FnExactNumbersOfUptoSaid : Prop := fnExactNumbersOfUptoRow.holds Try.pinned (OpenSpec.upto fnExactNumbersOfSpec)

/-- 'laws.FnExactSignsOf', WHERE WHAT IT READS IS OF BULK AT MOST 1048576: true; the input reads as it did. -/
def fnExactSignsOfUptoRow : OpenClaim := { program := "ytmcmfklkljehiaa", sum := "5ffef6f1a9cef7550da891eee10172df08252cca3ce412640d347cc299baaefe", func := "loop.example/g00739/laws.FnExactSignsOf", spec := "fnExactSignsOf", unfollowed := true, recurses := true, apart := false, narrowed := true }
def FnExactSignsOfUptoSaid : Prop := fnExactSignsOfUptoRow.holds Try.pinned (OpenSpec.upto fnExactSignsOfSpec)

/-- 'laws.FnExactWeakOf', WHERE WHAT IT READS IS OF BULK AT MOST 1048576: true; the input reads as it did. -/
def fnExactWeakOfUptoRow : OpenClaim := { program := "ytmcmfklkljehiaa", sum := "5ffef6f1a9cef7550da891eee10172df08252cca3ce412640d347cc299baaefe", func := "loop.example/g00739/laws.FnExactWeakOf", spec := "fnExactWeakOf", unfollowed := true, recurses := true, apart := false, narrowed := true }
def FnExactWeakOfUptoSaid : Prop := fnExactWeakOfUptoRow.holds Try.pinned (OpenSpec.upto fnExactWeakOfSpec)

end Rows
end Go.Proofs.Ytmcmfklkljehiaa
