import Derived.Test.YtpjfpgimpgmhcaeGreatBaAh
import Derived.Deep.AppendSrc
import Derived.Deep.Upon
import Derived.Deep.AppendLies
import Derived.Deep.RegionHeld3
set_option maxRecDepth 10000
/- Appends inside a statement whose order is open, of whatever elements. -/
namespace Go.Proofs.YtpjfpgimpgmhcaeGreat
open Go.RowKit
set_option linter.unusedSimpArgs false
set_option linter.unusedVariables false
set_option linter.unnecessarySimpa false

section
variable {α : Type} {cells : α → List Value} {size : Nat} {e : TypeId}

end

section
variable {ops : Array Oper} {o : Oper} {a : Act} {K : Act → World → Prop} {Q : Exit → Act → World → Prop} {E : Prop}
theorem step_of' (hgd : o.guard = none) {P : Program} {u : World} (h : o.wp P a u K Q) : if Region.wanted o (yielded ops a.tmps) = true then Oper.wp P o a u K Q else E := by
  have hw : Region.wanted o (yielded ops a.tmps) = true := by simp [Region.wanted, hgd]
  rw [if_pos hw]
  exact h
end

end Go.Proofs.YtpjfpgimpgmhcaeGreat
