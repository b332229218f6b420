/- Several texts in one: StH, StI. No condition. -/
import Derived.Test.YtimmjimeldejjaaGreatDoorHelp
import Derived.Test.YtimmjimeldejjaaGreatDoorGk
import Derived.Test.YtimmjimeldejjaaGreatDoorGj
import Derived.Test.YtimmjimeldejjaaGreatDoorGu
namespace Go.Proofs.YtimmjimeldejjaaGreatDoor
section
open Go.RowKit
set_option linter.unusedVariables false
set_option linter.unusedSimpArgs false
set_option maxRecDepth 20000

theorem ValsAt.drewN {w ao n cap vs} (h : ValsAt w ao n cap vs) (q : Nat) : ValsAt (w.drewN q) ao n cap vs := ⟨h.length, h.le, h.max, h.isNil, h.cell⟩
theorem strVs_length (O : List (List UInt8)) : (strVs O).length = O.length := by simp [strVs]
theorem take_snocT {O : List (List UInt8)} {k n : Nat} {x : List UInt8} (hx : O.getD k [] = x) (hk : k < n) (hl : O.length = n) : O.take (k + 1) = O.take k ++ [x] := by
  subst hx hl
  rw [List.take_add_one, List.getElem?_eq_getElem hk, List.getD_eq_getElem?_getD, List.getElem?_eq_getElem hk]
  rfl
theorem str_same (x : List UInt8) : ((⟨x.toArray⟩ : ByteArray).toList != (⟨x.toArray⟩ : ByteArray).toList) = false := by simp
theorem str_other {x y : List UInt8} (h : x ≠ y) : ((⟨x.toArray⟩ : ByteArray).toList != (⟨y.toArray⟩ : ByteArray).toList) = true := by
  rw [bne_iff_ne, ByteArray.toList_eq, ByteArray.toList_eq]
  simpa using h
theorem str_otherE {x y : List UInt8} (h : x ≠ y) : ((⟨x.toArray⟩ : ByteArray).toList == (⟨y.toArray⟩ : ByteArray).toList) = false := by
  rw [beq_eq_false_iff_ne, ByteArray.toList_eq, ByteArray.toList_eq]
  simpa using h
/-! ### Marks -/
end
end Go.Proofs.YtimmjimeldejjaaGreatDoor
namespace Go.Proofs.YtimmjimeldejjaaGreatDoor
section
open Go.RowKit
set_option linter.unusedVariables false
set_option linter.unusedSimpArgs false
set_option maxRecDepth 20000

end
end Go.Proofs.YtimmjimeldejjaaGreatDoor
