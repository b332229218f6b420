/- FnDeskScripts: for all bytes the law returns true and leaves its arguments as they were: a tied card. Its condition: what the row lists. -/
import Derived.Test.YtimmjimeldejjaaGreatDoorLwDs
import Derived.Test.YtimmjimeldejjaaGreatDoorDs2
namespace Go.Proofs.YtimmjimeldejjaaGreatDoor.fnDeskScripts
set_option linter.unusedSimpArgs false
open Go.ChangeShapes Go.WideShapes Go.ChangeAt Go.RowKit
set_option linter.unusedVariables false

theorem walk : WalkT := fun pn pw a0 len0 cap0 z0 a1 len1 cap1 z1 w w0 w1 hd hT => by
  have hl0 : len0 ≤ maxLen := by
    rcases w0 with ⟨_, h, _⟩ | ⟨x, _, h, h', _⟩
    · rw [h]; exact Nat.zero_le _
    · exact Nat.le_trans h h'
  exact deskScripts_any pn pw a0 a1 len0 cap0 len1 cap1 w (byteIn_row w0) hl0 hd ⟨hT.1, hT.2⟩
theorem proved : Rows.FnDeskScriptsCardSaid := proved_of walk
#print axioms proved
end Go.Proofs.YtimmjimeldejjaaGreatDoor.fnDeskScripts
