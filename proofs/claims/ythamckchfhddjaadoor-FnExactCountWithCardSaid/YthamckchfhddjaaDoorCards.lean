/-
  DERIVED. GIVEN WITH THE SEED: THE CARDS: each row of YthamckchfhddjaaDoorRows.lean that lists a variable, with what it lists TIED to the program's text (the seventh form; the later family's looks); each row that meets fmt, with fmt's text TOLD by the authors' own Lean function (tested against real Go, not proved from fmt's source: count such statements apart). THE CARD IS WHAT COUNTS. Prove the row's statement (the work); the ties are given (YthamckchfhddjaaDoorTie.lean); close each card by the builder's one call (the guide's Derived/Test/ToyasCard.lean, 'card_holds'). Laid BY PROGRAM, IN A SANDBOX (cutbox-door.mjs). By AI agents, Wed Nov 11 2026. No macro, syntax, notation, axiom, sorry.
-/
import Derived.Test.YthamckchfhddjaaDoorRows
import GoSem.ClaimSeven
namespace Go.Proofs.YthamckchfhddjaaDoor
namespace Rows

/-- THE TIED CARD OF 'laws.FnExactWordsOf'. -/
def fnExactWordsOfCard : Claim7 := { stood := { row := fnExactWordsOfRow, standIns := [], harness := (true, "e53a6c1187dce2950fa43ab3c9acab2dfa4c2b281468c8dcfe1a9ec923e2a467"), looks := false }, kinds := [], alts := [], laidByText := true, laidKinds := [.data], laidTests := true, laidLooks := .later }
def FnExactWordsOfCardSaid : Prop := Claim7.holds Tryd.pinned (.plain (OpenSpec.ofChange fnExactWordsOfSpec)) fnExactWordsOfCard

/-- THE TIED CARD OF 'laws.FnExactCountClasses'. -/
def fnExactCountClassesCard : Claim7 := { stood := { row := fnExactCountClassesRow, standIns := [], harness := (true, "e53a6c1187dce2950fa43ab3c9acab2dfa4c2b281468c8dcfe1a9ec923e2a467"), looks := false }, kinds := [], alts := [], laidByText := true, laidKinds := [.data], laidTests := true, laidLooks := .later }
def FnExactCountClassesCardSaid : Prop := Claim7.holds Tryd.pinned (.plain (OpenSpec.ofChange fnExactCountClassesSpec)) fnExactCountClassesCard

/-- THE TIED CARD OF 'laws.FnExactCountWith'. -/
def fnExactCountWithCard : Claim7 := { stood := { row := fnExactCountWithRow, standIns := [], harness := (true, "e53a6c1187dce2950fa43ab3c9acab2dfa4c2b281468c8dcfe1a9ec923e2a467"), looks := false }, kinds := [], alts := [], laidByText := true, laidKinds := [.data], laidTests := true, laidLooks := .later }
def FnExactCountWithCardSaid : Prop := Claim7.holds Tryd.pinned (.plain (OpenSpec.ofChange fnExactCountWithSpec)) fnExactCountWithCard

/-- THE TIED CARD OF 'laws.FnExactFirstWith'. -/
def fnExactFirstWithCard : Claim7 := { stood := { row := fnExactFirstWithRow, standIns := [], harness := (true, "e53a6c1187dce2950fa43ab3c9acab2dfa4c2b281468c8dcfe1a9ec923e2a467"), looks := false }, kinds := [], alts := [], laidByText := true, laidKinds := [.data], laidTests := true, laidLooks := .later }
def FnExactFirstWithCardSaid : Prop := Claim7.holds Tryd.pinned (.plain (OpenSpec.ofChange fnExactFirstWithSpec)) fnExactFirstWithCard

/-- THE TIED CARD OF 'laws.FnExactShortestLike'. -/
def fnExactShortestLikeCard : Claim7 := { stood := { row := fnExactShortestLikeRow, standIns := [], harness := (true, "e53a6c1187dce2950fa43ab3c9acab2dfa4c2b281468c8dcfe1a9ec923e2a467"), looks := false }, kinds := [], alts := [], laidByText := true, laidKinds := [.data], laidTests := true, laidLooks := .later }
def FnExactShortestLikeCardSaid : Prop := Claim7.holds Tryd.pinned (.plain (OpenSpec.ofChange fnExactShortestLikeSpec)) fnExactShortestLikeCard

/-- THE TIED CARD OF 'laws.FnExactRulesOf'. -/
def fnExactRulesOfCard : Claim7 := { stood := { row := fnExactRulesOfRow, standIns := [], harness := (true, "e53a6c1187dce2950fa43ab3c9acab2dfa4c2b281468c8dcfe1a9ec923e2a467"), looks := false }, kinds := [], alts := [], laidByText := true, laidKinds := [.data], laidTests := true, laidLooks := .later }
def FnExactRulesOfCardSaid : Prop := Claim7.holds Tryd.pinned (.plain (OpenSpec.ofChange fnExactRulesOfSpec)) fnExactRulesOfCard

/-- THE SECOND FORM's CARD OF 'laws.FnExactWordsOf'. -/
def fnExactWordsOfUptoCard : Claim7 := { stood := { row := fnExactWordsOfUptoRow, standIns := [], harness := (true, "e53a6c1187dce2950fa43ab3c9acab2dfa4c2b281468c8dcfe1a9ec923e2a467"), looks := false }, kinds := [], alts := [], laidByText := true, laidKinds := [.data], laidTests := true, laidLooks := .later }
def FnExactWordsOfUptoCardSaid : Prop := Claim7.holds Tryd.pinned (.plain (OpenSpec.upto fnExactWordsOfSpec)) fnExactWordsOfUptoCard

/-- THE SECOND FORM's CARD OF 'laws.FnExactCountClasses'. -/
def fnExactCountClassesUptoCard : Claim7 := { stood := { row := fnExactCountClassesUptoRow, standIns := [], harness := (true, "e53a6c1187dce2950fa43ab3c9acab2dfa4c2b281468c8dcfe1a9ec923e2a467"), looks := false }, kinds := [], alts := [], laidByText := true, laidKinds := [.data], laidTests := true, laidLooks := .later }
def FnExactCountClassesUptoCardSaid : Prop := Claim7.holds Tryd.pinned (.plain (OpenSpec.upto fnExactCountClassesSpec)) fnExactCountClassesUptoCard

/-- THE SECOND FORM's CARD OF 'laws.FnExactCountWith'. -/
def fnExactCountWithUptoCard : Claim7 := { stood := { row := fnExactCountWithUptoRow, standIns := [], harness := (true, "e53a6c1187dce2950fa43ab3c9acab2dfa4c2b281468c8dcfe1a9ec923e2a467"), looks := false }, kinds := [], alts := [], laidByText := true, laidKinds := [.data], laidTests := true, laidLooks := .later }
def FnExactCountWithUptoCardSaid : Prop := Claim7.holds Tryd.pinned (.plain (OpenSpec.upto fnExactCountWithSpec)) fnExactCountWithUptoCard

/-- THE SECOND FORM's CARD OF 'laws.FnExactFirstWith'. -/
def fnExactFirstWithUptoCard : Claim7 := { stood := { row := fnExactFirstWithUptoRow, standIns := [], harness := (true, "e53a6c1187dce2950fa43ab3c9acab2dfa4c2b281468c8dcfe1a9ec923e2a467"), looks := false }, kinds := [], alts := [], laidByText := true, laidKinds := [.data], laidTests := true, laidLooks := .later }
def FnExactFirstWithUptoCardSaid : Prop := Claim7.holds Tryd.pinned (.plain (OpenSpec.upto fnExactFirstWithSpec)) fnExactFirstWithUptoCard

/-- THE SECOND FORM's CARD OF 'laws.FnExactShortestLike'. -/
def fnExactShortestLikeUptoCard : Claim7 := { stood := { row := fnExactShortestLikeUptoRow, standIns := [], harness := (true, "e53a6c1187dce2950fa43ab3c9acab2dfa4c2b281468c8dcfe1a9ec923e2a467"), looks := false }, kinds := [], alts := [], laidByText := true, laidKinds := [.data], laidTests := true, laidLooks := .later }
def FnExactShortestLikeUptoCardSaid : Prop := Claim7.holds Tryd.pinned (.plain (OpenSpec.upto fnExactShortestLikeSpec)) fnExactShortestLikeUptoCard

/-- THE SECOND FORM's CARD OF 'laws.FnExactRulesOf'. -/
def fnExactRulesOfUptoCard : Claim7 := { stood := { row := fnExactRulesOfUptoRow, standIns := [], harness := (true, "e53a6c1187dce2950fa43ab3c9acab2dfa4c2b281468c8dcfe1a9ec923e2a467"), looks := false }, kinds := [], alts := [], laidByText := true, laidKinds := [.data], laidTests := true, laidLooks := .later }
def FnExactRulesOfUptoCardSaid : Prop := Claim7.holds Tryd.pinned (.plain (OpenSpec.upto fnExactRulesOfSpec)) fnExactRulesOfUptoCard
end Rows
end Go.Proofs.YthamckchfhddjaaDoor
