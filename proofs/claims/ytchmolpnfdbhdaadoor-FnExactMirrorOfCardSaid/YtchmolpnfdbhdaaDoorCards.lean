/-
  DERIVED. GIVEN WITH THE SEED: THE CARDS: each row of YtchmolpnfdbhdaaDoorRows.lean that lists a variable, with what it lists TIED to the program's text (the seventh form; the later family's looks); each row that meets fmt, with fmt's text TOLD by the authors' own Lean function (tested against real Go, not proved from fmt's source: count such statements apart). THE CARD IS WHAT COUNTS. Prove the row's statement (the work); the ties are given (YtchmolpnfdbhdaaDoorTie.lean); close each card by the builder's one call (the guide's Derived/Test/ToyasCard.lean, 'card_holds'). Laid BY PROGRAM, IN A SANDBOX (cutbox-door.mjs). By AI agents, Wed Nov 11 2026. No macro, syntax, notation, axiom, sorry.
-/
import Derived.Test.YtchmolpnfdbhdaaDoorRows
import GoSem.ClaimSeven
namespace Go.Proofs.YtchmolpnfdbhdaaDoor
namespace Rows

/-- THE TIED CARD OF 'laws.FnBytes'. -/
def fnBytesCard : Claim7 := { stood := { row := fnBytesRow, standIns := [], harness := (true, "ec8833cdce7782fb527315f2f7d6dff73af69f1381320e8ce4900c942b902daf"), looks := false }, kinds := [], alts := [], laidByText := true, laidKinds := [.data, .pinned], laidTests := true, laidLooks := .later }
def FnBytesCardSaid : Prop := Claim7.holds Tryd.pinned (.plain (OpenSpec.ofChange fnBytesSpec)) fnBytesCard

/-- THE TIED CARD OF 'laws.FnTables'. -/
def fnTablesCard : Claim7 := { stood := { row := fnTablesRow, standIns := [], harness := (true, "ec8833cdce7782fb527315f2f7d6dff73af69f1381320e8ce4900c942b902daf"), looks := false }, kinds := [], alts := [], laidByText := true, laidKinds := [.data], laidTests := true, laidLooks := .later }
def FnTablesCardSaid : Prop := Claim7.holds Tryd.pinned (.plain (OpenSpec.ofChange fnTablesSpec)) fnTablesCard

/-- THE TIED CARD OF 'laws.FnExactMirrorOf'. -/
def fnExactMirrorOfCard : Claim7 := { stood := { row := fnExactMirrorOfRow, standIns := [], harness := (true, "ec8833cdce7782fb527315f2f7d6dff73af69f1381320e8ce4900c942b902daf"), looks := false }, kinds := [], alts := [], laidByText := true, laidKinds := [.data], laidTests := true, laidLooks := .later }
def FnExactMirrorOfCardSaid : Prop := Claim7.holds Tryd.pinned (.plain (OpenSpec.ofChange fnExactMirrorOfSpec)) fnExactMirrorOfCard

/-- THE TIED CARD OF 'laws.FnExactBracketOf'. -/
def fnExactBracketOfCard : Claim7 := { stood := { row := fnExactBracketOfRow, standIns := [], harness := (true, "ec8833cdce7782fb527315f2f7d6dff73af69f1381320e8ce4900c942b902daf"), looks := false }, kinds := [], alts := [], laidByText := true, laidKinds := [.data], laidTests := true, laidLooks := .later }
def FnExactBracketOfCardSaid : Prop := Claim7.holds Tryd.pinned (.plain (OpenSpec.ofChange fnExactBracketOfSpec)) fnExactBracketOfCard

/-- THE SECOND FORM's CARD OF 'laws.FnBytes'. -/
def fnBytesUptoCard : Claim7 := { stood := { row := fnBytesUptoRow, standIns := [], harness := (true, "ec8833cdce7782fb527315f2f7d6dff73af69f1381320e8ce4900c942b902daf"), looks := false }, kinds := [], alts := [], laidByText := true, laidKinds := [.data, .pinned], laidTests := true, laidLooks := .later }
def FnBytesUptoCardSaid : Prop := Claim7.holds Tryd.pinned (.plain (OpenSpec.upto fnBytesSpec)) fnBytesUptoCard

/-- THE SECOND FORM's CARD OF 'laws.FnTables'. -/
def fnTablesUptoCard : Claim7 := { stood := { row := fnTablesUptoRow, standIns := [], harness := (true, "ec8833cdce7782fb527315f2f7d6dff73af69f1381320e8ce4900c942b902daf"), looks := false }, kinds := [], alts := [], laidByText := true, laidKinds := [.data], laidTests := true, laidLooks := .later }
def FnTablesUptoCardSaid : Prop := Claim7.holds Tryd.pinned (.plain (OpenSpec.upto fnTablesSpec)) fnTablesUptoCard

/-- THE SECOND FORM's CARD OF 'laws.FnExactMirrorOf'. -/
def fnExactMirrorOfUptoCard : Claim7 := { stood := { row := fnExactMirrorOfUptoRow, standIns := [], harness := (true, "ec8833cdce7782fb527315f2f7d6dff73af69f1381320e8ce4900c942b902daf"), looks := false }, kinds := [], alts := [], laidByText := true, laidKinds := [.data], laidTests := true, laidLooks := .later }
def FnExactMirrorOfUptoCardSaid : Prop := Claim7.holds Tryd.pinned (.plain (OpenSpec.upto fnExactMirrorOfSpec)) fnExactMirrorOfUptoCard

/-- THE SECOND FORM's CARD OF 'laws.FnExactBracketOf'. -/
def fnExactBracketOfUptoCard : Claim7 := { stood := { row := fnExactBracketOfUptoRow, standIns := [], harness := (true, "ec8833cdce7782fb527315f2f7d6dff73af69f1381320e8ce4900c942b902daf"), looks := false }, kinds := [], alts := [], laidByText := true, laidKinds := [.data], laidTests := true, laidLooks := .later }
def FnExactBracketOfUptoCardSaid : Prop := Claim7.holds Tryd.pinned (.plain (OpenSpec.upto fnExactBracketOfSpec)) fnExactBracketOfUptoCard
end Rows
end Go.Proofs.YtchmolpnfdbhdaaDoor
