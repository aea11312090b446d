/-
  NARROWER THAN 'FOR EVERY INPUT', by the rows' own cells (each row's printed sentence says how): FnBytes: laid · FnExactCarryFault: laid · FnExactDecodeChunk: laid · FnExactFlushCarry: laid · FnExactDecodeAll: laid.
  DERIVED. THE GIVEN ROWS OF THIS SEAT. 5 by the template 'for every input the law returns true; each argument reads behind the call as it read before'; 0 by the template 'total and deterministic' (their statements: YtgpnkkobjbojnaaDoorTotals.lean).
  GIVEN WITH THE SEED: the statements are not yours to turn. If you find one false, say at which input.
  Laid BY PROGRAM, IN A SANDBOX (cutbox-rows.mjs): the forced cells as the released guide's own fill.sh prints them over the translation e80316fc717448e7… (all of the seat's roots in one cut). By AI agents, Wed Nov 11 2026. No macro, syntax, notation, axiom, sorry.
-/
import Derived.Test.YtgpnkkobjbojnaaDoorChecked
import GoSem.PinnedTables
import GoSem.Claim
import GoSem.ClaimJoined
import GoSem.ClaimMapViews
import Derived.JoinedTies
import Derived.KernelRfl
namespace Go.Proofs.YtgpnkkobjbojnaaDoor
/- THE CELL 'sum', in the pinned program and in every row, IS THE sha256 OF THE DUMP (.gsa) THAT YtgpnkkobjbojnaaDoorProg.lean LOADS. Nothing in Lean hashes anything: it is a label: what it is worth is what the hold of that sum in a sandbox is worth. -/
noncomputable def Tryd.pinned : Pinned := { name := "ytgpnkkobjbojnaadoor", sum := "e80316fc717448e7dd3297d6982eca14ffebd347e465de6f641db32a5bc663f0", checked := Tryd.checked }
namespace Rows
def none {H : Type} : Left H := { results := [], args := [] }

/- WHAT THE LISTED PACKAGE-LEVEL VARIABLES READ AS WHEN THE CALL BEGINS. Each datum BY PROGRAM (the guide's laid-datum.mjs) off the statement by which the dump's own 'gosem.cut.vars' lays the variable. In a bare row this is a premise. The card (YtgpnkkobjbojnaaDoorCards.lean) ties it to the program's text. -/
def laid_unicode_utf8_acceptRanges {H : Type} : DataW H := .agg [.agg [.lit (.int .u8 128), .lit (.int .u8 191)], .agg [.lit (.int .u8 160), .lit (.int .u8 191)], .agg [.lit (.int .u8 128), .lit (.int .u8 159)], .agg [.lit (.int .u8 144), .lit (.int .u8 191)], .agg [.lit (.int .u8 128), .lit (.int .u8 143)], .agg [.lit (.int .u8 0), .lit (.int .u8 0)], .agg [.lit (.int .u8 0), .lit (.int .u8 0)], .agg [.lit (.int .u8 0), .lit (.int .u8 0)], .agg [.lit (.int .u8 0), .lit (.int .u8 0)], .agg [.lit (.int .u8 0), .lit (.int .u8 0)], .agg [.lit (.int .u8 0), .lit (.int .u8 0)], .agg [.lit (.int .u8 0), .lit (.int .u8 0)], .agg [.lit (.int .u8 0), .lit (.int .u8 0)], .agg [.lit (.int .u8 0), .lit (.int .u8 0)], .agg [.lit (.int .u8 0), .lit (.int .u8 0)], .agg [.lit (.int .u8 0), .lit (.int .u8 0)]]
/-- One of Go's own tables, pinned by name: the form's constant. -/
def laid_unicode_utf8_first : DataW Unit := Go.Pinned.utf8First

/-- 'laws.FnBytes': WHATEVER THE INPUT: true; the input reads as it did. -/
def fnBytesSpec : ChangeSpec := { name := "fnBytes", fn := fun _ => fun
  | [d] => { results := [.lit (.bool true)], args := [d] }
  | _ => none }
def fnBytesRow : OpenClaim := { program := "ytgpnkkobjbojnaadoor", sum := "e80316fc717448e7dd3297d6982eca14ffebd347e465de6f641db32a5bc663f0", func := "loop.example/g00739/laws.FnBytes", spec := "fnBytes", unfollowed := true, recurses := true, named := ["unicode/utf8.first", "unicode/utf8.acceptRanges"], apart := false, laid := [("unicode/utf8.acceptRanges", laid_unicode_utf8_acceptRanges), ("unicode/utf8.first", laid_unicode_utf8_first)] }
def FnBytesSaid : Prop := fnBytesRow.holds Tryd.pinned (OpenSpec.ofChange fnBytesSpec)

/-- ITS FALSE NEIGHBOUR: 'it returns false'. Refute it at one input. -/
def fnBytesWrong : ChangeSpec := { name := "fnBytes", fn := fun _ => fun
  | [d] => { results := [.lit (.bool false)], args := [d] }
  | _ => none }
def FnBytesWrongFalsely : Prop := fnBytesRow.holds Tryd.pinned (OpenSpec.ofChange fnBytesWrong)

/-- 'laws.FnExactCarryFault': WHATEVER THE INPUT: true; the input reads as it did. -/
def fnExactCarryFaultSpec : ChangeSpec := { name := "fnExactCarryFault", fn := fun _ => fun
  | [d] => { results := [.lit (.bool true)], args := [d] }
  | _ => none }
def fnExactCarryFaultRow : OpenClaim := { program := "ytgpnkkobjbojnaadoor", sum := "e80316fc717448e7dd3297d6982eca14ffebd347e465de6f641db32a5bc663f0", func := "loop.example/g00739/laws.FnExactCarryFault", spec := "fnExactCarryFault", named := ["unicode/utf8.first", "unicode/utf8.acceptRanges"], apart := false, laid := [("unicode/utf8.acceptRanges", laid_unicode_utf8_acceptRanges), ("unicode/utf8.first", laid_unicode_utf8_first)] }
def FnExactCarryFaultSaid : Prop := fnExactCarryFaultRow.holds Tryd.pinned (OpenSpec.ofChange fnExactCarryFaultSpec)

/-- ITS FALSE NEIGHBOUR: 'it returns false'. Refute it at one input. -/
def fnExactCarryFaultWrong : ChangeSpec := { name := "fnExactCarryFault", fn := fun _ => fun
  | [d] => { results := [.lit (.bool false)], args := [d] }
  | _ => none }
def FnExactCarryFaultWrongFalsely : Prop := fnExactCarryFaultRow.holds Tryd.pinned (OpenSpec.ofChange fnExactCarryFaultWrong)

/-- 'laws.FnExactDecodeChunk': WHATEVER THE INPUT: true; the input reads as it did. -/
def fnExactDecodeChunkSpec : ChangeSpec := { name := "fnExactDecodeChunk", fn := fun _ => fun
  | [d1, d2] => { results := [.lit (.bool true)], args := [d1, d2] }
  | _ => none }
def fnExactDecodeChunkRow : OpenClaim := { program := "ytgpnkkobjbojnaadoor", sum := "e80316fc717448e7dd3297d6982eca14ffebd347e465de6f641db32a5bc663f0", func := "loop.example/g00739/laws.FnExactDecodeChunk", spec := "fnExactDecodeChunk", unfollowed := true, recurses := true, named := ["unicode/utf8.first", "unicode/utf8.acceptRanges"], apart := false, laid := [("unicode/utf8.acceptRanges", laid_unicode_utf8_acceptRanges), ("unicode/utf8.first", laid_unicode_utf8_first)] }
def FnExactDecodeChunkSaid : Prop := fnExactDecodeChunkRow.holds Tryd.pinned (OpenSpec.ofChange fnExactDecodeChunkSpec)

/-- ITS FALSE NEIGHBOUR: 'it returns false'. Refute it at one input. -/
def fnExactDecodeChunkWrong : ChangeSpec := { name := "fnExactDecodeChunk", fn := fun _ => fun
  | [d1, d2] => { results := [.lit (.bool false)], args := [d1, d2] }
  | _ => none }
def FnExactDecodeChunkWrongFalsely : Prop := fnExactDecodeChunkRow.holds Tryd.pinned (OpenSpec.ofChange fnExactDecodeChunkWrong)

/-- 'laws.FnExactFlushCarry': WHATEVER THE INPUT: true; the input reads as it did. -/
def fnExactFlushCarrySpec : ChangeSpec := { name := "fnExactFlushCarry", fn := fun _ => fun
  | [d] => { results := [.lit (.bool true)], args := [d] }
  | _ => none }
def fnExactFlushCarryRow : OpenClaim := { program := "ytgpnkkobjbojnaadoor", sum := "e80316fc717448e7dd3297d6982eca14ffebd347e465de6f641db32a5bc663f0", func := "loop.example/g00739/laws.FnExactFlushCarry", spec := "fnExactFlushCarry", named := ["unicode/utf8.first", "unicode/utf8.acceptRanges"], apart := false, laid := [("unicode/utf8.acceptRanges", laid_unicode_utf8_acceptRanges), ("unicode/utf8.first", laid_unicode_utf8_first)] }
def FnExactFlushCarrySaid : Prop := fnExactFlushCarryRow.holds Tryd.pinned (OpenSpec.ofChange fnExactFlushCarrySpec)

/-- ITS FALSE NEIGHBOUR: 'it returns false'. Refute it at one input. -/
def fnExactFlushCarryWrong : ChangeSpec := { name := "fnExactFlushCarry", fn := fun _ => fun
  | [d] => { results := [.lit (.bool false)], args := [d] }
  | _ => none }
def FnExactFlushCarryWrongFalsely : Prop := fnExactFlushCarryRow.holds Tryd.pinned (OpenSpec.ofChange fnExactFlushCarryWrong)

/-- 'laws.FnExactDecodeAll': WHATEVER THE INPUT: true; the input reads as it did. -/
def fnExactDecodeAllSpec : ChangeSpec := { name := "fnExactDecodeAll", fn := fun _ => fun
  | [d] => { results := [.lit (.bool true)], args := [d] }
  | _ => none }
def fnExactDecodeAllRow : OpenClaim := { program := "ytgpnkkobjbojnaadoor", sum := "e80316fc717448e7dd3297d6982eca14ffebd347e465de6f641db32a5bc663f0", func := "loop.example/g00739/laws.FnExactDecodeAll", spec := "fnExactDecodeAll", unfollowed := true, recurses := true, named := ["unicode/utf8.first", "unicode/utf8.acceptRanges"], apart := false, laid := [("unicode/utf8.acceptRanges", laid_unicode_utf8_acceptRanges), ("unicode/utf8.first", laid_unicode_utf8_first)] }
def FnExactDecodeAllSaid : Prop := fnExactDecodeAllRow.holds Tryd.pinned (OpenSpec.ofChange fnExactDecodeAllSpec)

/-- ITS FALSE NEIGHBOUR: 'it returns false'. Refute it at one input. -/
def fnExactDecodeAllWrong : ChangeSpec := { name := "fnExactDecodeAll", fn := fun _ => fun
  | [d] => { results := [.lit (.bool false)], args := [d] }
  | _ => none }
def FnExactDecodeAllWrongFalsely : Prop := fnExactDecodeAllRow.holds Tryd.pinned (OpenSpec.ofChange fnExactDecodeAllWrong)

/- THE SECOND FORM. 'bulk': how many values and letters a reading holds, each counted each time it is reached (what is shared counts as often as it is met; a slice's spare places count too). A statement '..UptoSaid' is the law's where the arguments, and the package variables that the reading takes, are together of bulk at most 1048576: NARROWER than '..Said'. Prove '..Said' where nothing that the law and all that it calls make is longer than what came in: it says more and counts as full. Else prove '..UptoSaid'. A law counts once. -/
mutual
def uptoBulk {H : Type} : DataW H → Nat
  | .lit (.string bytes) => bytes.length + 1
  | .lit _ => 1
  | .nil => 1
  | .ptr d => uptoBulk d + 1
  | .slice elems spare => uptoBulkAll elems + uptoBulkAll spare + 1
  | .agg parts => uptoBulkAll parts + 1
  | .iface _ d => uptoBulk d + 1
  | .map entries => uptoBulkEntries entries + 1
  | .held _ => 1
def uptoBulkAll {H : Type} : List (DataW H) → Nat
  | [] => 0
  | d :: r => uptoBulk d + uptoBulkAll r
def uptoBulkEntries {H : Type} : List (Lit × DataW H) → Nat
  | [] => 0
  | x :: r => uptoBulkEntry x + uptoBulkEntries r
def uptoBulkEntry {H : Type} : Lit × DataW H → Nat
  | (.string bytes, d) => bytes.length + uptoBulk d + 1
  | (_, d) => uptoBulk d + 1
 end
def uptoSmall : (H : Type) → List (DataW H) → Bool := fun _ ds => decide (uptoBulkAll ds ≤ 1048576)
def OpenSpec.upto (s : _root_.Go.ChangeSpec) : _root_.Go.OpenSpec := { _root_.Go.OpenSpec.ofChange s with cond := some uptoSmall }

/-- 'laws.FnBytes', WHERE WHAT IT READS IS OF BULK AT MOST 1048576: true; the input reads as it did. -/
def fnBytesUptoRow : OpenClaim := { program := "ytgpnkkobjbojnaadoor", sum := "e80316fc717448e7dd3297d6982eca14ffebd347e465de6f641db32a5bc663f0", func := "loop.example/g00739/laws.FnBytes", spec := "fnBytes", unfollowed := true, recurses := true, named := ["unicode/utf8.first", "unicode/utf8.acceptRanges"], apart := false, laid := [("unicode/utf8.acceptRanges", laid_unicode_utf8_acceptRanges), ("unicode/utf8.first", laid_unicode_utf8_first)], narrowed := true }
def FnBytesUptoSaid : Prop := fnBytesUptoRow.holds Tryd.pinned (OpenSpec.upto fnBytesSpec)

/-- 'laws.FnExactCarryFault', WHERE WHAT IT READS IS OF BULK AT MOST 1048576: true; the input reads as it did. -/
def fnExactCarryFaultUptoRow : OpenClaim := { program := "ytgpnkkobjbojnaadoor", sum := "e80316fc717448e7dd3297d6982eca14ffebd347e465de6f641db32a5bc663f0", func := "loop.example/g00739/laws.FnExactCarryFault", spec := "fnExactCarryFault", named := ["unicode/utf8.first", "unicode/utf8.acceptRanges"], apart := false, laid := [("unicode/utf8.acceptRanges", laid_unicode_utf8_acceptRanges), ("unicode/utf8.first", laid_unicode_utf8_first)], narrowed := true }
def FnExactCarryFaultUptoSaid : Prop := fnExactCarryFaultUptoRow.holds Tryd.pinned (OpenSpec.upto fnExactCarryFaultSpec)

/-- 'laws.FnExactDecodeChunk', WHERE WHAT IT READS IS OF BULK AT MOST 1048576: true; the input reads as it did. -/
def fnExactDecodeChunkUptoRow : OpenClaim := { program := "ytgpnkkobjbojnaadoor", sum := "e80316fc717448e7dd3297d6982eca14ffebd347e465de6f641db32a5bc663f0", func := "loop.example/g00739/laws.FnExactDecodeChunk", spec := "fnExactDecodeChunk", unfollowed := true, recurses := true, named := ["unicode/utf8.first", "unicode/utf8.acceptRanges"], apart := false, laid := [("unicode/utf8.acceptRanges", laid_unicode_utf8_acceptRanges), ("unicode/utf8.first", laid_unicode_utf8_first)], narrowed := true }
def FnExactDecodeChunkUptoSaid : Prop := fnExactDecodeChunkUptoRow.holds Tryd.pinned (OpenSpec.upto fnExactDecodeChunkSpec)

/-- 'laws.FnExactFlushCarry', WHERE WHAT IT READS IS OF BULK AT MOST 1048576: true; the input reads as it did. -/
def fnExactFlushCarryUptoRow : OpenClaim := { program := "ytgpnkkobjbojnaadoor", sum := "e80316fc717448e7dd3297d6982eca14ffebd347e465de6f641db32a5bc663f0", func := "loop.example/g00739/laws.FnExactFlushCarry", spec := "fnExactFlushCarry", named := ["unicode/utf8.first", "unicode/utf8.acceptRanges"], apart := false, laid := [("unicode/utf8.acceptRanges", laid_unicode_utf8_acceptRanges), ("unicode/utf8.first", laid_unicode_utf8_first)], narrowed := true }
def FnExactFlushCarryUptoSaid : Prop := fnExactFlushCarryUptoRow.holds Tryd.pinned (OpenSpec.upto fnExactFlushCarrySpec)

/-- 'laws.FnExactDecodeAll', WHERE WHAT IT READS IS OF BULK AT MOST 1048576: true; the input reads as it did. -/
def fnExactDecodeAllUptoRow : OpenClaim := { program := "ytgpnkkobjbojnaadoor", sum := "e80316fc717448e7dd3297d6982eca14ffebd347e465de6f641db32a5bc663f0", func := "loop.example/g00739/laws.FnExactDecodeAll", spec := "fnExactDecodeAll", unfollowed := true, recurses := true, named := ["unicode/utf8.first", "unicode/utf8.acceptRanges"], apart := false, laid := [("unicode/utf8.acceptRanges", laid_unicode_utf8_acceptRanges), ("unicode/utf8.first", laid_unicode_utf8_first)], narrowed := true }
def FnExactDecodeAllUptoSaid : Prop := fnExactDecodeAllUptoRow.holds Tryd.pinned (OpenSpec.upto fnExactDecodeAllSpec)

end Rows
end Go.Proofs.YtgpnkkobjbojnaaDoor
