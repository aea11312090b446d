/-
  DERIVED. GIVEN WITH THE SEED: THE CARDS: each row of YtgpnkkobjbojnaaDoorRows.lean that lists a variable, with what it lists TIED to the program's text (the seventh form; the later family's looks); each row that meets fmt, with fmt's text TOLD by the authors' own Lean function (tested against real Go, not proved from fmt's source: count such statements apart). THE CARD IS WHAT COUNTS. Prove the row's statement (the work); the ties are given (YtgpnkkobjbojnaaDoorTie.lean); close each card by the builder's one call (the guide's Derived/Test/ToyasCard.lean, 'card_holds'). Laid BY PROGRAM, IN A SANDBOX (cutbox-door.mjs). By AI agents, Wed Nov 11 2026. No macro, syntax, notation, axiom, sorry.
-/
import Derived.Test.YtgpnkkobjbojnaaDoorRows
import GoSem.ClaimSeven
namespace Go.Proofs.YtgpnkkobjbojnaaDoor
namespace Rows

/-- THE TIED CARD OF 'laws.FnBytes'. -/
def fnBytesCard : Claim7 := { stood := { row := fnBytesRow, standIns := [], harness := (true, "9336b7acb9d2d2ab0d8679493e744c8e9ed642c028689a2d80695af0e33be85f"), looks := false }, kinds := [], alts := [], laidByText := true, laidKinds := [.data, .pinned], laidTests := true, laidLooks := .later }
def FnBytesCardSaid : Prop := Claim7.holds Tryd.pinned (.plain (OpenSpec.ofChange fnBytesSpec)) fnBytesCard

/-- THE TIED CARD OF 'laws.FnExactCarryFault'. -/
def fnExactCarryFaultCard : Claim7 := { stood := { row := fnExactCarryFaultRow, standIns := [], harness := (true, "9336b7acb9d2d2ab0d8679493e744c8e9ed642c028689a2d80695af0e33be85f"), looks := false }, kinds := [], alts := [], laidByText := true, laidKinds := [.data, .pinned], laidTests := true, laidLooks := .later }
def FnExactCarryFaultCardSaid : Prop := Claim7.holds Tryd.pinned (.plain (OpenSpec.ofChange fnExactCarryFaultSpec)) fnExactCarryFaultCard

/-- THE TIED CARD OF 'laws.FnExactDecodeChunk'. -/
def fnExactDecodeChunkCard : Claim7 := { stood := { row := fnExactDecodeChunkRow, standIns := [], harness := (true, "9336b7acb9d2d2ab0d8679493e744c8e9ed642c028689a2d80695af0e33be85f"), looks := false }, kinds := [], alts := [], laidByText := true, laidKinds := [.data, .pinned], laidTests := true, laidLooks := .later }
def FnExactDecodeChunkCardSaid : Prop := Claim7.holds Tryd.pinned (.plain (OpenSpec.ofChange fnExactDecodeChunkSpec)) fnExactDecodeChunkCard

/-- THE TIED CARD OF 'laws.FnExactFlushCarry'. -/
def fnExactFlushCarryCard : Claim7 := { stood := { row := fnExactFlushCarryRow, standIns := [], harness := (true, "9336b7acb9d2d2ab0d8679493e744c8e9ed642c028689a2d80695af0e33be85f"), looks := false }, kinds := [], alts := [], laidByText := true, laidKinds := [.data, .pinned], laidTests := true, laidLooks := .later }
def FnExactFlushCarryCardSaid : Prop := Claim7.holds Tryd.pinned (.plain (OpenSpec.ofChange fnExactFlushCarrySpec)) fnExactFlushCarryCard

/-- THE TIED CARD OF 'laws.FnExactDecodeAll'. -/
def fnExactDecodeAllCard : Claim7 := { stood := { row := fnExactDecodeAllRow, standIns := [], harness := (true, "9336b7acb9d2d2ab0d8679493e744c8e9ed642c028689a2d80695af0e33be85f"), looks := false }, kinds := [], alts := [], laidByText := true, laidKinds := [.data, .pinned], laidTests := true, laidLooks := .later }
def FnExactDecodeAllCardSaid : Prop := Claim7.holds Tryd.pinned (.plain (OpenSpec.ofChange fnExactDecodeAllSpec)) fnExactDecodeAllCard

/-- THE SECOND FORM's CARD OF 'laws.FnBytes'. -/
def fnBytesUptoCard : Claim7 := { stood := { row := fnBytesUptoRow, standIns := [], harness := (true, "9336b7acb9d2d2ab0d8679493e744c8e9ed642c028689a2d80695af0e33be85f"), looks := false }, kinds := [], alts := [], laidByText := true, laidKinds := [.data, .pinned], laidTests := true, laidLooks := .later }
def FnBytesUptoCardSaid : Prop := Claim7.holds Tryd.pinned (.plain (OpenSpec.upto fnBytesSpec)) fnBytesUptoCard

/-- THE SECOND FORM's CARD OF 'laws.FnExactCarryFault'. -/
def fnExactCarryFaultUptoCard : Claim7 := { stood := { row := fnExactCarryFaultUptoRow, standIns := [], harness := (true, "9336b7acb9d2d2ab0d8679493e744c8e9ed642c028689a2d80695af0e33be85f"), looks := false }, kinds := [], alts := [], laidByText := true, laidKinds := [.data, .pinned], laidTests := true, laidLooks := .later }
def FnExactCarryFaultUptoCardSaid : Prop := Claim7.holds Tryd.pinned (.plain (OpenSpec.upto fnExactCarryFaultSpec)) fnExactCarryFaultUptoCard

/-- THE SECOND FORM's CARD OF 'laws.FnExactDecodeChunk'. -/
def fnExactDecodeChunkUptoCard : Claim7 := { stood := { row := fnExactDecodeChunkUptoRow, standIns := [], harness := (true, "9336b7acb9d2d2ab0d8679493e744c8e9ed642c028689a2d80695af0e33be85f"), looks := false }, kinds := [], alts := [], laidByText := true, laidKinds := [.data, .pinned], laidTests := true, laidLooks := .later }
def FnExactDecodeChunkUptoCardSaid : Prop := Claim7.holds Tryd.pinned (.plain (OpenSpec.upto fnExactDecodeChunkSpec)) fnExactDecodeChunkUptoCard

/-- THE SECOND FORM's CARD OF 'laws.FnExactFlushCarry'. -/
def fnExactFlushCarryUptoCard : Claim7 := { stood := { row := fnExactFlushCarryUptoRow, standIns := [], harness := (true, "9336b7acb9d2d2ab0d8679493e744c8e9ed642c028689a2d80695af0e33be85f"), looks := false }, kinds := [], alts := [], laidByText := true, laidKinds := [.data, .pinned], laidTests := true, laidLooks := .later }
def FnExactFlushCarryUptoCardSaid : Prop := Claim7.holds Tryd.pinned (.plain (OpenSpec.upto fnExactFlushCarrySpec)) fnExactFlushCarryUptoCard

/-- THE SECOND FORM's CARD OF 'laws.FnExactDecodeAll'. -/
def fnExactDecodeAllUptoCard : Claim7 := { stood := { row := fnExactDecodeAllUptoRow, standIns := [], harness := (true, "9336b7acb9d2d2ab0d8679493e744c8e9ed642c028689a2d80695af0e33be85f"), looks := false }, kinds := [], alts := [], laidByText := true, laidKinds := [.data, .pinned], laidTests := true, laidLooks := .later }
def FnExactDecodeAllUptoCardSaid : Prop := Claim7.holds Tryd.pinned (.plain (OpenSpec.upto fnExactDecodeAllSpec)) fnExactDecodeAllUptoCard
end Rows
end Go.Proofs.YtgpnkkobjbojnaaDoor
