/-
  DERIVED. GIVEN WITH THE SEED: THE CARDS: each row of YtgaamcmjonngjaaDoorRows.lean that lists a variable, with what it lists TIED to the program's text (the seventh form; the later family's looks); each row that meets fmt, with fmt's text TOLD by the authors' own Lean function (tested against real Go, not proved from fmt's source: count such statements apart). THE CARD IS WHAT COUNTS. Prove the row's statement (the work); the ties are given (YtgaamcmjonngjaaDoorTie.lean); close each card by the builder's one call (the guide's Derived/Test/ToyasCard.lean, 'card_holds'). Laid BY PROGRAM, IN A SANDBOX (cutbox-door.mjs). By AI agents, Wed Nov 11 2026. No macro, syntax, notation, axiom, sorry.
-/
import Derived.Test.YtgaamcmjonngjaaDoorRows
import GoSem.ClaimSeven
namespace Go.Proofs.YtgaamcmjonngjaaDoor
namespace Rows

/-- THE TIED CARD OF 'demonlaw4.OrderFalls'. -/
def orderFallsCard : Claim7 := { stood := { row := orderFallsRow, standIns := [], harness := (true, "8fe0dbe3bdb37ae3edffbbccc46c04f7ae6ad55813fa4f64f2a390ba57d54f86"), looks := true }, kinds := [], alts := [], laidByText := true, laidKinds := [.sentinel, .sentinel, .sentinel], laidTests := true, laidLooks := .later }
def OrderFallsCardSaid : Prop := Claim7.holds Tryd.pinned (.plain (OpenSpec.ofChange orderFallsSpec)) orderFallsCard

/-- THE TIED CARD OF 'demonlaw4.OrderBirkhoff'. -/
def orderBirkhoffCard : Claim7 := { stood := { row := orderBirkhoffRow, standIns := [], harness := (true, "8fe0dbe3bdb37ae3edffbbccc46c04f7ae6ad55813fa4f64f2a390ba57d54f86"), looks := true }, kinds := [], alts := [], laidByText := true, laidKinds := [.sentinel, .sentinel], laidTests := true, laidLooks := .later }
def OrderBirkhoffCardSaid : Prop := Claim7.holds Tryd.pinned (.plain (OpenSpec.ofChange orderBirkhoffSpec)) orderBirkhoffCard

/-- THE TIED CARD OF 'demonlaw4.OrderEntropy'. -/
def orderEntropyCard : Claim7 := { stood := { row := orderEntropyRow, standIns := [], harness := (true, "8fe0dbe3bdb37ae3edffbbccc46c04f7ae6ad55813fa4f64f2a390ba57d54f86"), looks := true }, kinds := [], alts := [], laidByText := true, laidKinds := [.sentinel, .sentinel], laidTests := true, laidLooks := .later }
def OrderEntropyCardSaid : Prop := Claim7.holds Tryd.pinned (.plain (OpenSpec.ofChange orderEntropySpec)) orderEntropyCard

/-- THE TIED CARD OF 'demonlaw4.OrderHull'. -/
def orderHullCard : Claim7 := { stood := { row := orderHullRow, standIns := [], harness := (true, "8fe0dbe3bdb37ae3edffbbccc46c04f7ae6ad55813fa4f64f2a390ba57d54f86"), looks := true }, kinds := [], alts := [], laidByText := true, laidKinds := [.handle, .sentinel, .sentinel, .sentinel, .sentinel, .sentinel, .sentinel, .sentinel, .sentinel], laidTests := true, laidLooks := .later }
def OrderHullCardSaid : Prop := Claim7.holds Tryd.pinned (.plain (OpenSpec.ofChange orderHullSpec)) orderHullCard

/-- THE TIED CARD OF 'demonlaw4.OrderMix'. -/
def orderMixCard : Claim7 := { stood := { row := orderMixRow, standIns := [], harness := (true, "8fe0dbe3bdb37ae3edffbbccc46c04f7ae6ad55813fa4f64f2a390ba57d54f86"), looks := true }, kinds := [], alts := [], laidByText := true, laidKinds := [.handle, .sentinel, .sentinel, .sentinel, .sentinel, .sentinel, .sentinel, .sentinel, .sentinel], laidTests := true, laidLooks := .later }
def OrderMixCardSaid : Prop := Claim7.holds Tryd.pinned (.plain (OpenSpec.ofChange orderMixSpec)) orderMixCard

/-- THE TIED CARD OF 'demonlaw4.OrderGibbs'. -/
def orderGibbsCard : Claim7 := { stood := { row := orderGibbsRow, standIns := [], harness := (true, "8fe0dbe3bdb37ae3edffbbccc46c04f7ae6ad55813fa4f64f2a390ba57d54f86"), looks := true }, kinds := [], alts := [], laidByText := true, laidKinds := [.handle, .sentinel, .sentinel, .sentinel, .sentinel, .sentinel, .sentinel, .sentinel, .sentinel], laidTests := true, laidLooks := .later }
def OrderGibbsCardSaid : Prop := Claim7.holds Tryd.pinned (.plain (OpenSpec.ofChange orderGibbsSpec)) orderGibbsCard

/-- THE SECOND FORM's CARD OF 'demonlaw4.OrderFalls'. -/
def orderFallsUptoCard : Claim7 := { stood := { row := orderFallsUptoRow, standIns := [], harness := (true, "8fe0dbe3bdb37ae3edffbbccc46c04f7ae6ad55813fa4f64f2a390ba57d54f86"), looks := true }, kinds := [], alts := [], laidByText := true, laidKinds := [.sentinel, .sentinel, .sentinel], laidTests := true, laidLooks := .later }
def OrderFallsUptoCardSaid : Prop := Claim7.holds Tryd.pinned (.plain (OpenSpec.upto orderFallsSpec)) orderFallsUptoCard

/-- THE SECOND FORM's CARD OF 'demonlaw4.OrderBirkhoff'. -/
def orderBirkhoffUptoCard : Claim7 := { stood := { row := orderBirkhoffUptoRow, standIns := [], harness := (true, "8fe0dbe3bdb37ae3edffbbccc46c04f7ae6ad55813fa4f64f2a390ba57d54f86"), looks := true }, kinds := [], alts := [], laidByText := true, laidKinds := [.sentinel, .sentinel], laidTests := true, laidLooks := .later }
def OrderBirkhoffUptoCardSaid : Prop := Claim7.holds Tryd.pinned (.plain (OpenSpec.upto orderBirkhoffSpec)) orderBirkhoffUptoCard

/-- THE SECOND FORM's CARD OF 'demonlaw4.OrderEntropy'. -/
def orderEntropyUptoCard : Claim7 := { stood := { row := orderEntropyUptoRow, standIns := [], harness := (true, "8fe0dbe3bdb37ae3edffbbccc46c04f7ae6ad55813fa4f64f2a390ba57d54f86"), looks := true }, kinds := [], alts := [], laidByText := true, laidKinds := [.sentinel, .sentinel], laidTests := true, laidLooks := .later }
def OrderEntropyUptoCardSaid : Prop := Claim7.holds Tryd.pinned (.plain (OpenSpec.upto orderEntropySpec)) orderEntropyUptoCard

/-- THE SECOND FORM's CARD OF 'demonlaw4.OrderHull'. -/
def orderHullUptoCard : Claim7 := { stood := { row := orderHullUptoRow, standIns := [], harness := (true, "8fe0dbe3bdb37ae3edffbbccc46c04f7ae6ad55813fa4f64f2a390ba57d54f86"), looks := true }, kinds := [], alts := [], laidByText := true, laidKinds := [.handle, .sentinel, .sentinel, .sentinel, .sentinel, .sentinel, .sentinel, .sentinel, .sentinel], laidTests := true, laidLooks := .later }
def OrderHullUptoCardSaid : Prop := Claim7.holds Tryd.pinned (.plain (OpenSpec.upto orderHullSpec)) orderHullUptoCard

/-- THE SECOND FORM's CARD OF 'demonlaw4.OrderMix'. -/
def orderMixUptoCard : Claim7 := { stood := { row := orderMixUptoRow, standIns := [], harness := (true, "8fe0dbe3bdb37ae3edffbbccc46c04f7ae6ad55813fa4f64f2a390ba57d54f86"), looks := true }, kinds := [], alts := [], laidByText := true, laidKinds := [.handle, .sentinel, .sentinel, .sentinel, .sentinel, .sentinel, .sentinel, .sentinel, .sentinel], laidTests := true, laidLooks := .later }
def OrderMixUptoCardSaid : Prop := Claim7.holds Tryd.pinned (.plain (OpenSpec.upto orderMixSpec)) orderMixUptoCard

/-- THE SECOND FORM's CARD OF 'demonlaw4.OrderGibbs'. -/
def orderGibbsUptoCard : Claim7 := { stood := { row := orderGibbsUptoRow, standIns := [], harness := (true, "8fe0dbe3bdb37ae3edffbbccc46c04f7ae6ad55813fa4f64f2a390ba57d54f86"), looks := true }, kinds := [], alts := [], laidByText := true, laidKinds := [.handle, .sentinel, .sentinel, .sentinel, .sentinel, .sentinel, .sentinel, .sentinel, .sentinel], laidTests := true, laidLooks := .later }
def OrderGibbsUptoCardSaid : Prop := Claim7.holds Tryd.pinned (.plain (OpenSpec.upto orderGibbsSpec)) orderGibbsUptoCard
end Rows
end Go.Proofs.YtgaamcmjonngjaaDoor
