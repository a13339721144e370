import Derived.Test.YtlamhfbdeinkkaeGreatShDs
import Derived.Test.YtlamhfbdeinkkaeGreatShCs
set_option maxRecDepth 10000
/- The walk of the reference's CheckShip. -/
namespace Go.Proofs.YtlamhfbdeinkkaeGreat.Sh
open Go.RowKit
set_option linter.unusedSimpArgs false
set_option linter.unusedVariables false
set_option linter.unnecessarySimpa false

end Go.Proofs.YtlamhfbdeinkkaeGreat.Sh
/- The walk of the reference's OrderOf. -/
namespace Go.Proofs.YtlamhfbdeinkkaeGreat.Sh
open Go.RowKit
set_option linter.unusedSimpArgs false
set_option linter.unusedVariables false
set_option linter.unnecessarySimpa false

theorem TblAt.blocks {w w' : World} {base n g : Nat} {B : Nat → Nat} {T : Tab} (h : TblAt w base n g B T) (hg : w'.heap[g]? = w.heap[g]?) (hb : ∀ i, i < n → w'.heap[B i]? = w.heap[B i]?) : TblAt w' base n g B T :=
  ⟨h.lo, h.rlo, h.inj, fun i hi => (World.cell?_of_block (a := ⟨g, i, none⟩) hg).trans (h.out i hi), fun i hi => (h.row i hi).of_block (hb i hi)⟩

end Go.Proofs.YtlamhfbdeinkkaeGreat.Sh
/- The walks of the reference's CheckShip (whatever its sizes) and DoesServe, and of the law ShipTells. -/
namespace Go.Proofs.YtlamhfbdeinkkaeGreat.Sh
open Go.RowKit
set_option linter.unusedSimpArgs false
set_option linter.unusedVariables false
set_option linter.unnecessarySimpa false

end Go.Proofs.YtlamhfbdeinkkaeGreat.Sh
