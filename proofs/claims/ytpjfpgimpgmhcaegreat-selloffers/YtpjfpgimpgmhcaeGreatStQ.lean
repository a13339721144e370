/- Package stock: with, Could. -/
import Derived.Test.YtpjfpgimpgmhcaeGreatStP
namespace Go.Proofs.YtpjfpgimpgmhcaeGreat.St
open Go.RowKit Bk
set_option linter.unusedSimpArgs false
set_option linter.unusedVariables false
set_option maxRecDepth 10000

def P.insB (z : Bkg) (l : List Bkg) : List Bkg := l.filter (fun y => decide (y.id < z.id)) ++ z :: l.filter (fun y => decide (z.id < y.id))
theorem one_bk (w : World) (b : Bkg) (fo : Option Addr) (fc : Nat) : SlAt (RC cellsV) 11 (W.bk w b fo fc) (some ⟨w.heap.size, 0, none⟩) 1 [(b, fo, fc)] :=
  SlAt.ofBlock (l := [(b, fo, fc)]) [cellsV (b, fo, fc)] (heap_alloc_new _ _) rfl rfl (fun i hi => by
    have hi : i < 1 := hi
    match i, hi with
    | 0, _ => exact ⟨_, rfl, rfl⟩) (by intro c hc; simp at hc; subst hc; rfl) (by simp [maxLen])
/-- H3: a sailing with one booking more. -/
def P.withB (x : Sail) (b : Bkg) : Sail := ⟨x.s, x.L, x.al, x.th, x.B, x.dn, x.day, x.lvs, P.insB b x.bks, x.cl⟩
end Go.Proofs.YtpjfpgimpgmhcaeGreat.St
