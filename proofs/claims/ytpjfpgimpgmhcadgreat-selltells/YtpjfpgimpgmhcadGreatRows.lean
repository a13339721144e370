/-
  No cell of these rows narrows 'for every input' (looked for: loops, veiled, ifaces, maps, wideKeys, modest, calm, conditions, laid).
  DERIVED. THE GIVEN ROWS OF THIS SEAT. 4 by the template 'for every input the law returns true; each argument reads behind the call as it read before'; 0 by the template 'total and deterministic' (their statements: YtpjfpgimpgmhcadGreatTotals.lean).
  GIVEN WITH THE SEED: the statements are not yours to turn. If you find one false, say at which input.
  Laid BY PROGRAM, IN A SANDBOX (cutbox-rows.mjs): the forced cells as the released guide's own fill.sh prints them over the translation 0e7dddaf7ab9e548… (all of the seat's roots in one cut). By AI agents, Wed Nov 11 2026. No macro, syntax, notation, axiom, sorry.
-/
import Derived.Test.YtpjfpgimpgmhcadGreatChecked
import GoSem.Claim
import GoSem.ClaimJoined
import GoSem.ClaimMapViews
import Derived.JoinedTies
import Derived.KernelRfl
namespace Go.Proofs.YtpjfpgimpgmhcadGreat
/- THE CELL 'sum', in the pinned program and in every row, IS THE sha256 OF THE DUMP (.gsa) THAT YtpjfpgimpgmhcadGreatProg.lean LOADS. Nothing in Lean hashes anything: it is a label: what it is worth is what the hold of that sum in a sandbox is worth. -/
noncomputable def Tryz.pinned : Pinned := { name := "ytpjfpgimpgmhcadgreat", sum := "0e7dddaf7ab9e5483f66497030ec3c67f251bb9670ea109c48d9452f64a2f08c", checked := Tryz.checked }
namespace Rows
def none {H : Type} : Left H := { results := [], args := [] }

/-- 'taffraillaw.StockLess': WHATEVER THE INPUT: true; the input reads as it did. -/
def stockLessSpec : ChangeSpec := { name := "stockLess", fn := fun _ => fun
  | [d1, d2] => { results := [.lit (.bool true)], args := [d1, d2] }
  | _ => none }
def stockLessRow : OpenClaim := { program := "ytpjfpgimpgmhcadgreat", sum := "0e7dddaf7ab9e5483f66497030ec3c67f251bb9670ea109c48d9452f64a2f08c", func := "taffrail/taffraillaw.StockLess", spec := "stockLess", unfollowed := true, recurses := true, plainKeys := false, apart := false }
def StockLessSaid : Prop := stockLessRow.holds Tryz.pinned (OpenSpec.ofChange stockLessSpec)

/-- ITS FALSE NEIGHBOUR: 'it returns false'. Refute it at one input. -/
def stockLessWrong : ChangeSpec := { name := "stockLess", fn := fun _ => fun
  | [d1, d2] => { results := [.lit (.bool false)], args := [d1, d2] }
  | _ => none }
def StockLessWrongFalsely : Prop := stockLessRow.holds Tryz.pinned (OpenSpec.ofChange stockLessWrong)

/-- 'taffraillaw.StockTells': WHATEVER THE INPUT: true; the input reads as it did. -/
def stockTellsSpec : ChangeSpec := { name := "stockTells", fn := fun _ => fun
  | [d1, d2, d3] => { results := [.lit (.bool true)], args := [d1, d2, d3] }
  | _ => none }
def stockTellsRow : OpenClaim := { program := "ytpjfpgimpgmhcadgreat", sum := "0e7dddaf7ab9e5483f66497030ec3c67f251bb9670ea109c48d9452f64a2f08c", func := "taffrail/taffraillaw.StockTells", spec := "stockTells", unfollowed := true, recurses := true, plainKeys := false, apart := false }
def StockTellsSaid : Prop := stockTellsRow.holds Tryz.pinned (OpenSpec.ofChange stockTellsSpec)

/-- ITS FALSE NEIGHBOUR: 'it returns false'. Refute it at one input. -/
def stockTellsWrong : ChangeSpec := { name := "stockTells", fn := fun _ => fun
  | [d1, d2, d3] => { results := [.lit (.bool false)], args := [d1, d2, d3] }
  | _ => none }
def StockTellsWrongFalsely : Prop := stockTellsRow.holds Tryz.pinned (OpenSpec.ofChange stockTellsWrong)

/-- 'taffraillaw.StockKept': WHATEVER THE INPUT: true; the input reads as it did. -/
def stockKeptSpec : ChangeSpec := { name := "stockKept", fn := fun _ => fun
  | [d] => { results := [.lit (.bool true)], args := [d] }
  | _ => none }
def stockKeptRow : OpenClaim := { program := "ytpjfpgimpgmhcadgreat", sum := "0e7dddaf7ab9e5483f66497030ec3c67f251bb9670ea109c48d9452f64a2f08c", func := "taffrail/taffraillaw.StockKept", spec := "stockKept", unfollowed := true, recurses := true, plainKeys := false, apart := false }
def StockKeptSaid : Prop := stockKeptRow.holds Tryz.pinned (OpenSpec.ofChange stockKeptSpec)

/-- ITS FALSE NEIGHBOUR: 'it returns false'. Refute it at one input. -/
def stockKeptWrong : ChangeSpec := { name := "stockKept", fn := fun _ => fun
  | [d] => { results := [.lit (.bool false)], args := [d] }
  | _ => none }
def StockKeptWrongFalsely : Prop := stockKeptRow.holds Tryz.pinned (OpenSpec.ofChange stockKeptWrong)

/-- 'taffraillaw.SellTells': WHATEVER THE INPUT: true; the input reads as it did. -/
def sellTellsSpec : ChangeSpec := { name := "sellTells", fn := fun _ => fun
  | [d1, d2, d3, d4, d5] => { results := [.lit (.bool true)], args := [d1, d2, d3, d4, d5] }
  | _ => none }
def sellTellsRow : OpenClaim := { program := "ytpjfpgimpgmhcadgreat", sum := "0e7dddaf7ab9e5483f66497030ec3c67f251bb9670ea109c48d9452f64a2f08c", func := "taffrail/taffraillaw.SellTells", spec := "sellTells", inPlace := ["slices.overlaps[taffrail/api.Booking]"], unfollowed := true, recurses := true, plainKeys := false, apart := false }
def SellTellsSaid : Prop := sellTellsRow.holds Tryz.pinned (OpenSpec.ofChange sellTellsSpec)

/-- ITS FALSE NEIGHBOUR: 'it returns false'. Refute it at one input. -/
def sellTellsWrong : ChangeSpec := { name := "sellTells", fn := fun _ => fun
  | [d1, d2, d3, d4, d5] => { results := [.lit (.bool false)], args := [d1, d2, d3, d4, d5] }
  | _ => none }
def SellTellsWrongFalsely : Prop := sellTellsRow.holds Tryz.pinned (OpenSpec.ofChange sellTellsWrong)

/- THE SECOND FORM. 'bulk': how many values and letters a reading holds, each counted each time it is reached (what is shared counts as often as it is met; a slice's spare places count too). A statement '..UptoSaid' is the law's where the arguments, and the package variables that the reading takes, are together of bulk at most 1048576: NARROWER than '..Said'. Prove '..Said' where nothing that the law and all that it calls make is longer than what came in: it says more and counts as full. Else prove '..UptoSaid'. A law counts once. -/
mutual
def uptoBulk {H : Type} : DataW H → Nat
  | .lit (.string bytes) => bytes.length + 1
  | .lit _ => 1
  | .nil => 1
  | .ptr d => uptoBulk d + 1
  | .slice elems spare => uptoBulkAll elems + uptoBulkAll spare + 1
  | .agg parts => uptoBulkAll parts + 1
  | .iface _ d => uptoBulk d + 1
  | .map entries => uptoBulkEntries entries + 1
  | .held _ => 1
def uptoBulkAll {H : Type} : List (DataW H) → Nat
  | [] => 0
  | d :: r => uptoBulk d + uptoBulkAll r
def uptoBulkEntries {H : Type} : List (Lit × DataW H) → Nat
  | [] => 0
  | x :: r => uptoBulkEntry x + uptoBulkEntries r
def uptoBulkEntry {H : Type} : Lit × DataW H → Nat
  | (.string bytes, d) => bytes.length + uptoBulk d + 1
  | (_, d) => uptoBulk d + 1
 end
def uptoSmall : (H : Type) → List (DataW H) → Bool := fun _ ds => decide (uptoBulkAll ds ≤ 1048576)
def OpenSpec.upto (s : _root_.Go.ChangeSpec) : _root_.Go.OpenSpec := { _root_.Go.OpenSpec.ofChange s with cond := some uptoSmall }

/-- 'taffraillaw.StockLess', WHERE WHAT IT READS IS OF BULK AT MOST 1048576: true; the input reads as it did. -/
def stockLessUptoRow : OpenClaim := { program := "ytpjfpgimpgmhcadgreat", sum := "0e7dddaf7ab9e5483f66497030ec3c67f251bb9670ea109c48d9452f64a2f08c", func := "taffrail/taffraillaw.StockLess", spec := "stockLess", unfollowed := true, recurses := true, plainKeys := false, apart := false, narrowed := true }
def StockLessUptoSaid : Prop := stockLessUptoRow.holds Tryz.pinned (OpenSpec.upto stockLessSpec)

/-- 'taffraillaw.StockTells', WHERE WHAT IT READS IS OF BULK AT MOST 1048576: true; the input reads as it did. -/
def stockTellsUptoRow : OpenClaim := { program := "ytpjfpgimpgmhcadgreat", sum := "0e7dddaf7ab9e5483f66497030ec3c67f251bb9670ea109c48d9452f64a2f08c", func := "taffrail/taffraillaw.StockTells", spec := "stockTells", unfollowed := true, recurses := true, plainKeys := false, apart := false, narrowed := true }
def StockTellsUptoSaid : Prop := stockTellsUptoRow.holds Tryz.pinned (OpenSpec.upto stockTellsSpec)

/-- 'taffraillaw.StockKept', WHERE WHAT IT READS IS OF BULK AT MOST 1048576: true; the input reads as it did. -/
def stockKeptUptoRow : OpenClaim := { program := "ytpjfpgimpgmhcadgreat", sum := "0e7dddaf7ab9e5483f66497030ec3c67f251bb9670ea109c48d9452f64a2f08c", func := "taffrail/taffraillaw.StockKept", spec := "stockKept", unfollowed := true, recurses := true, plainKeys := false, apart := false, narrowed := true }
def StockKeptUptoSaid : Prop := stockKeptUptoRow.holds Tryz.pinned (OpenSpec.upto stockKeptSpec)

/-- 'taffraillaw.SellTells', WHERE WHAT IT READS IS OF BULK AT MOST 1048576: true; the input reads as it did. -/
def sellTellsUptoRow : OpenClaim := { program := "ytpjfpgimpgmhcadgreat", sum := "0e7dddaf7ab9e5483f66497030ec3c67f251bb9670ea109c48d9452f64a2f08c", func := "taffrail/taffraillaw.SellTells", spec := "sellTells", inPlace := ["slices.overlaps[taffrail/api.Booking]"], unfollowed := true, recurses := true, plainKeys := false, apart := false, narrowed := true }
def SellTellsUptoSaid : Prop := sellTellsUptoRow.holds Tryz.pinned (OpenSpec.upto sellTellsSpec)

end Rows
end Go.Proofs.YtpjfpgimpgmhcadGreat
