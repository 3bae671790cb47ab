/- Contract of tree.Get. -/
import Derived.Test.YtldjdoebappkoaaGreatDoorIns11
import Derived.Test.YtldjdoebappkoaaGreatDoorIdx11
namespace Go.Proofs.YtldjdoebappkoaaGreatDoor
open Go.RowKit
set_option linter.unusedVariables false
set_option maxRecDepth 100000
set_option linter.unusedSimpArgs false

theorem Tn.Few.kid {t : Tn} (h : t.Few) {i : Nat} (hi : i < t.kids.length) : t.kids[i].Few := by
  cases h with
  | mk hk hq hl => exact hl _ (List.getElem_mem hi)
theorem Tn.Few.keys {t : Tn} (h : t.Few) : t.keys.length ≤ 1000000 := by cases h with | mk hk hq hl => exact hk
theorem Tn.Few.kids {t : Tn} (h : t.Few) : t.kids.length ≤ 1000000 := by cases h with | mk hk hq hl => exact hq

end Go.Proofs.YtldjdoebappkoaaGreatDoor
