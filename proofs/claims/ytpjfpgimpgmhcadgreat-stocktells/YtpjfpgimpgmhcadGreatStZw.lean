/- StockTells, whole. -/
import Derived.Test.YtpjfpgimpgmhcadGreatStY
import Derived.Test.YtpjfpgimpgmhcadGreatStZ
namespace Go.Proofs.YtpjfpgimpgmhcadGreat.St
open Go.RowKit Bk
set_option linter.unusedVariables false

theorem stockTells_walk (x : Sail) (a : SailA) (c : Int) (b : Bkg) (fo : Option Addr) (fc : Nat) (w : World) (hs : SailAt w x a) (hf : Fo.EntsAt w fo fc b.fol) :
    Calls Tryz.prog 4 #[V.sail x a, .int .i64 c, V.bk b fo fc] w fun e w' => e = .returned (.bool true) ∧ Below w.heap.size w w' :=
  stockTells_over (fun x a b fo fc w hs hf hE hid => withBooking_ok x a b fo fc w hs hf hE hid) x a c b fo fc w hs hf

end Go.Proofs.YtpjfpgimpgmhcadGreat.St
