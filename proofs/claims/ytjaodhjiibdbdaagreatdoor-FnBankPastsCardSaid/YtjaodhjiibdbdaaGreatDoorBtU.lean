/- The specification reads a bank state from a text. No condition but a bound on the length. -/
import Derived.Test.YtjaodhjiibdbdaaGreatDoorBtQ
import Derived.Test.YtjaodhjiibdbdaaGreatDoorBtR
import Derived.Test.YtjaodhjiibdbdaaGreatDoorBtS
import Derived.Test.YtjaodhjiibdbdaaGreatDoorBtT
namespace Go.Proofs.YtjaodhjiibdbdaaGreatDoor
open Go.RowKit
set_option linter.unusedVariables false

theorem list_three {l : List (List UInt8)} (h : l.length = 3) : ∃ a b c, l = [a, b, c] := by
  match l, h with
  | [a, b, c], _ => exact ⟨a, b, c, rfl⟩
theorem spec_ParseBank (s : ByteArray) (w : World) (hs : s.size ≤ 1048576) :
    Calls Tryz.prog 32 #[.string s] w fun e w' => ∃ a m c, e = .returned (.tuple #[.agg #[.int .i64 (mParseBank s).1.h, .int .i64 (mParseBank s).1.l, .slice a m c], .bool (mParseBank s).2]) ∧ Own w.heap.size w'.heap.size w' a m c (mParseBank s).1.p ∧ Below w.heap.size w w' := by
  by_cases h3 : (splitL 58 s.data.toList).length = 3
  · obtain ⟨W0, W1, W2, h⟩ := list_three h3
    cases ho : (mParsePiles ⟨W2.toArray⟩).2
    · exact spec_PB_a s w hs h ho
    · cases hk : bankB ⟨readL W0, readL W1, (mParsePiles ⟨W2.toArray⟩).1⟩
      · exact spec_PB_b s w hs h ho hk
      · by_cases ht : bankL ⟨readL W0, readL W1, (mParsePiles ⟨W2.toArray⟩).1⟩ = s.data.toList
        · exact spec_PB_d s w hs h ho hk ht
        · exact spec_PB_c s w hs h ho hk ht
  · exact spec_PB_n s w hs h3
end Go.Proofs.YtjaodhjiibdbdaaGreatDoor
