/- slices.Grow, slices.Concat over bookings; package stock: with. -/
import Derived.Test.YtpjfpgimpgmhcaeGreatStO
import Derived.Lib.AppendZerosOnto
import Derived.Lib.AppendZeros
namespace Go.Proofs.YtpjfpgimpgmhcaeGreat.St
open Go.RowKit Bk
set_option linter.unusedSimpArgs false
set_option linter.unusedVariables false
set_option maxRecDepth 10000

/-- Slices of bookings, in a slice. -/
def RBs (w : World) (l : List BkV) (cs : List Value) : Prop := ∃ ao cap, cs = [.slice ao l.length cap] ∧ SlAt (RC cellsV) 11 w ao cap l
theorem RBs.mono : Mono RBs := fun w w' x cs hb ⟨ao, cap, h1, h2⟩ => ⟨ao, cap, h1, SlAt.below (RC.mono _) h2 hb⟩
abbrev BssAt (w : World) (ao : Option Addr) (cap : Nat) (l : List (List BkV)) : Prop := SlAt RBs 1 w ao cap l
theorem BssAt.get {w w' : World} {ao : Option Addr} {cap : Nat} {l : List (List BkV)} (h : BssAt w ao cap l) (hb : Below w.heap.size w w') (k : Nat) (hk : k < l.length) :
    ∃ b off, ∃ y : List BkV, ∃ yo yc, ao = some ⟨b, off, none⟩ ∧ b < w.heap.size ∧ l.drop k = y :: l.drop (k + 1) ∧ w'.cell? ⟨b, off + k, none⟩ = some (.slice yo y.length yc) ∧ SlAt (RC cellsV) 11 w' yo yc y := by
  obtain ⟨b, off, x, cs, h1, h2, h3, ⟨yo, yc, rfl, h4⟩, h5, h6⟩ := SlAt.get RBs.mono h hb k hk
  exact ⟨b, off, x, yo, yc, h1, h2, h3, by simpa using h6 0 _ rfl, h4⟩

end Go.Proofs.YtpjfpgimpgmhcaeGreat.St
