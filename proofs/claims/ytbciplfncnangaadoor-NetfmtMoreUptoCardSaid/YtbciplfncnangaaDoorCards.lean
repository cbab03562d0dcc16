/-
  DERIVED. GIVEN WITH THE SEED: THE CARDS: each row of YtbciplfncnangaaDoorRows.lean that lists a variable, with what it lists TIED to the program's text (the seventh form; the later family's looks); each row that meets fmt, with fmt's text TOLD by the authors' own Lean function (tested against real Go, not proved from fmt's source: count such statements apart). THE CARD IS WHAT COUNTS. Prove the row's statement (the work); the ties are given (YtbciplfncnangaaDoorTie.lean); close each card by the builder's one call (the guide's Derived/Test/ToyasCard.lean, 'card_holds'). Laid BY PROGRAM, IN A SANDBOX (cutbox-door.mjs). By AI agents, Wed Nov 11 2026. No macro, syntax, notation, axiom, sorry.
-/
import Derived.Test.YtbciplfncnangaaDoorRows
import GoSem.ClaimSeven
namespace Go.Proofs.YtbciplfncnangaaDoor
namespace Rows

/-- THE TIED CARD OF 'ebbtidelaw05.NetfmtChecks'. -/
def netfmtChecksCard : Claim7 := { stood := { row := netfmtChecksRow, standIns := [], harness := (true, "f13ad94caf9be50640673aa805ae88d51e915db78ab969d2939f900fc325039a"), looks := false }, kinds := [], alts := [], laidByText := true, laidKinds := [.data, .data, .data], laidTests := true, laidLooks := .later }
def NetfmtChecksCardSaid : Prop := Claim7.holds Tryd.pinned (.plain (OpenSpec.ofChange netfmtChecksSpec)) netfmtChecksCard

/-- THE TIED CARD OF 'ebbtidelaw05.NetfmtParses'. -/
def netfmtParsesCard : Claim7 := { stood := { row := netfmtParsesRow, standIns := [], harness := (true, "f13ad94caf9be50640673aa805ae88d51e915db78ab969d2939f900fc325039a"), looks := false }, kinds := [], alts := [], laidByText := true, laidKinds := [.data, .data, .data], laidTests := true, laidLooks := .later }
def NetfmtParsesCardSaid : Prop := Claim7.holds Tryd.pinned (.plain (OpenSpec.ofChange netfmtParsesSpec)) netfmtParsesCard

/-- THE TIED CARD OF 'ebbtidelaw05.NetfmtBack'. -/
def netfmtBackCard : Claim7 := { stood := { row := netfmtBackRow, standIns := [], harness := (true, "f13ad94caf9be50640673aa805ae88d51e915db78ab969d2939f900fc325039a"), looks := false }, kinds := [], alts := [], laidByText := true, laidKinds := [.data, .data, .data], laidTests := true, laidLooks := .later }
def NetfmtBackCardSaid : Prop := Claim7.holds Tryd.pinned (.plain (OpenSpec.ofChange netfmtBackSpec)) netfmtBackCard

/-- THE TIED CARD OF 'ebbtidelaw05.NetfmtAgain'. -/
def netfmtAgainCard : Claim7 := { stood := { row := netfmtAgainRow, standIns := [], harness := (true, "f13ad94caf9be50640673aa805ae88d51e915db78ab969d2939f900fc325039a"), looks := false }, kinds := [], alts := [], laidByText := true, laidKinds := [.data, .data, .data], laidTests := true, laidLooks := .later }
def NetfmtAgainCardSaid : Prop := Claim7.holds Tryd.pinned (.plain (OpenSpec.ofChange netfmtAgainSpec)) netfmtAgainCard

/-- THE TIED CARD OF 'ebbtidelaw05.NetfmtApart'. -/
def netfmtApartCard : Claim7 := { stood := { row := netfmtApartRow, standIns := [], harness := (true, "f13ad94caf9be50640673aa805ae88d51e915db78ab969d2939f900fc325039a"), looks := false }, kinds := [], alts := [], laidByText := true, laidKinds := [.data, .data, .data], laidTests := true, laidLooks := .later }
def NetfmtApartCardSaid : Prop := Claim7.holds Tryd.pinned (.plain (OpenSpec.ofChange netfmtApartSpec)) netfmtApartCard

/-- THE TIED CARD OF 'ebbtidelaw05.NetfmtIdle'. -/
def netfmtIdleCard : Claim7 := { stood := { row := netfmtIdleRow, standIns := [], harness := (true, "f13ad94caf9be50640673aa805ae88d51e915db78ab969d2939f900fc325039a"), looks := false }, kinds := [], alts := [], laidByText := true, laidKinds := [.data, .data, .data], laidTests := true, laidLooks := .later }
def NetfmtIdleCardSaid : Prop := Claim7.holds Tryd.pinned (.plain (OpenSpec.ofChange netfmtIdleSpec)) netfmtIdleCard

/-- THE TIED CARD OF 'ebbtidelaw05.NetfmtMore'. -/
def netfmtMoreCard : Claim7 := { stood := { row := netfmtMoreRow, standIns := [], harness := (true, "f13ad94caf9be50640673aa805ae88d51e915db78ab969d2939f900fc325039a"), looks := false }, kinds := [], alts := [], laidByText := true, laidKinds := [.data, .data, .data], laidTests := true, laidLooks := .later }
def NetfmtMoreCardSaid : Prop := Claim7.holds Tryd.pinned (.plain (OpenSpec.ofChange netfmtMoreSpec)) netfmtMoreCard

/-- THE SECOND FORM's CARD OF 'ebbtidelaw05.NetfmtChecks'. -/
def netfmtChecksUptoCard : Claim7 := { stood := { row := netfmtChecksUptoRow, standIns := [], harness := (true, "f13ad94caf9be50640673aa805ae88d51e915db78ab969d2939f900fc325039a"), looks := false }, kinds := [], alts := [], laidByText := true, laidKinds := [.data, .data, .data], laidTests := true, laidLooks := .later }
def NetfmtChecksUptoCardSaid : Prop := Claim7.holds Tryd.pinned (.plain (OpenSpec.upto netfmtChecksSpec)) netfmtChecksUptoCard

/-- THE SECOND FORM's CARD OF 'ebbtidelaw05.NetfmtParses'. -/
def netfmtParsesUptoCard : Claim7 := { stood := { row := netfmtParsesUptoRow, standIns := [], harness := (true, "f13ad94caf9be50640673aa805ae88d51e915db78ab969d2939f900fc325039a"), looks := false }, kinds := [], alts := [], laidByText := true, laidKinds := [.data, .data, .data], laidTests := true, laidLooks := .later }
def NetfmtParsesUptoCardSaid : Prop := Claim7.holds Tryd.pinned (.plain (OpenSpec.upto netfmtParsesSpec)) netfmtParsesUptoCard

/-- THE SECOND FORM's CARD OF 'ebbtidelaw05.NetfmtBack'. -/
def netfmtBackUptoCard : Claim7 := { stood := { row := netfmtBackUptoRow, standIns := [], harness := (true, "f13ad94caf9be50640673aa805ae88d51e915db78ab969d2939f900fc325039a"), looks := false }, kinds := [], alts := [], laidByText := true, laidKinds := [.data, .data, .data], laidTests := true, laidLooks := .later }
def NetfmtBackUptoCardSaid : Prop := Claim7.holds Tryd.pinned (.plain (OpenSpec.upto netfmtBackSpec)) netfmtBackUptoCard

/-- THE SECOND FORM's CARD OF 'ebbtidelaw05.NetfmtAgain'. -/
def netfmtAgainUptoCard : Claim7 := { stood := { row := netfmtAgainUptoRow, standIns := [], harness := (true, "f13ad94caf9be50640673aa805ae88d51e915db78ab969d2939f900fc325039a"), looks := false }, kinds := [], alts := [], laidByText := true, laidKinds := [.data, .data, .data], laidTests := true, laidLooks := .later }
def NetfmtAgainUptoCardSaid : Prop := Claim7.holds Tryd.pinned (.plain (OpenSpec.upto netfmtAgainSpec)) netfmtAgainUptoCard

/-- THE SECOND FORM's CARD OF 'ebbtidelaw05.NetfmtApart'. -/
def netfmtApartUptoCard : Claim7 := { stood := { row := netfmtApartUptoRow, standIns := [], harness := (true, "f13ad94caf9be50640673aa805ae88d51e915db78ab969d2939f900fc325039a"), looks := false }, kinds := [], alts := [], laidByText := true, laidKinds := [.data, .data, .data], laidTests := true, laidLooks := .later }
def NetfmtApartUptoCardSaid : Prop := Claim7.holds Tryd.pinned (.plain (OpenSpec.upto netfmtApartSpec)) netfmtApartUptoCard

/-- THE SECOND FORM's CARD OF 'ebbtidelaw05.NetfmtIdle'. -/
def netfmtIdleUptoCard : Claim7 := { stood := { row := netfmtIdleUptoRow, standIns := [], harness := (true, "f13ad94caf9be50640673aa805ae88d51e915db78ab969d2939f900fc325039a"), looks := false }, kinds := [], alts := [], laidByText := true, laidKinds := [.data, .data, .data], laidTests := true, laidLooks := .later }
def NetfmtIdleUptoCardSaid : Prop := Claim7.holds Tryd.pinned (.plain (OpenSpec.upto netfmtIdleSpec)) netfmtIdleUptoCard

/-- THE SECOND FORM's CARD OF 'ebbtidelaw05.NetfmtMore'. -/
def netfmtMoreUptoCard : Claim7 := { stood := { row := netfmtMoreUptoRow, standIns := [], harness := (true, "f13ad94caf9be50640673aa805ae88d51e915db78ab969d2939f900fc325039a"), looks := false }, kinds := [], alts := [], laidByText := true, laidKinds := [.data, .data, .data], laidTests := true, laidLooks := .later }
def NetfmtMoreUptoCardSaid : Prop := Claim7.holds Tryd.pinned (.plain (OpenSpec.upto netfmtMoreSpec)) netfmtMoreUptoCard
end Rows
end Go.Proofs.YtbciplfncnangaaDoor
