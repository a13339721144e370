/-
  No cell of these rows narrows 'for every input' (looked for: loops, veiled, ifaces, maps, wideKeys, modest, calm, conditions, laid).
  DERIVED. THE GIVEN ROWS OF THIS SEAT. 6 by the template 'for every input the law returns true; each argument reads behind the call as it read before'; 0 by the template 'total and deterministic' (their statements: YtlamhfbdeinkkaeGreatTotals.lean).
  GIVEN WITH THE SEED: the statements are not yours to turn. If you find one false, say at which input.
  Laid BY PROGRAM, IN A SANDBOX (cutbox-rows.mjs): the forced cells as the released guide's own fill.sh prints them over the translation 6691c583dbb12639… (all of the seat's roots in one cut). By AI agents, Wed Nov 11 2026. No macro, syntax, notation, axiom, sorry.
-/
import Derived.Test.YtlamhfbdeinkkaeGreatChecked
import GoSem.Claim
import GoSem.ClaimJoined
import GoSem.ClaimMapViews
import Derived.JoinedTies
import Derived.KernelRfl
namespace Go.Proofs.YtlamhfbdeinkkaeGreat
/- THE CELL 'sum', in the pinned program and in every row, IS THE sha256 OF THE DUMP (.gsa) THAT YtlamhfbdeinkkaeGreatProg.lean LOADS. Nothing in Lean hashes anything: it is a label: what it is worth is what the hold of that sum in a sandbox is worth. -/
noncomputable def Tryz.pinned : Pinned := { name := "ytlamhfbdeinkkaegreat", sum := "6691c583dbb126397ec301f9bbbc708c10a2fb8e7de4939042f9706c52386260", checked := Tryz.checked }
namespace Rows
def none {H : Type} : Left H := { results := [], args := [] }

/-- 'taffraillaw.SellOthers': WHATEVER THE INPUT: true; the input reads as it did. -/
def sellOthersSpec : ChangeSpec := { name := "sellOthers", fn := fun _ => fun
  | [d1, d2] => { results := [.lit (.bool true)], args := [d1, d2] }
  | _ => none }
def sellOthersRow : OpenClaim := { program := "ytlamhfbdeinkkaegreat", sum := "6691c583dbb126397ec301f9bbbc708c10a2fb8e7de4939042f9706c52386260", func := "taffrail/taffraillaw.SellOthers", spec := "sellOthers", inPlace := ["slices.overlaps[taffrail/api.Booking]"], unfollowed := true, recurses := true, plainKeys := false, apart := false }
def SellOthersSaid : Prop := sellOthersRow.holds Tryz.pinned (OpenSpec.ofChange sellOthersSpec)

/-- ITS FALSE NEIGHBOUR: 'it returns false'. Refute it at one input. -/
def sellOthersWrong : ChangeSpec := { name := "sellOthers", fn := fun _ => fun
  | [d1, d2] => { results := [.lit (.bool false)], args := [d1, d2] }
  | _ => none }
def SellOthersWrongFalsely : Prop := sellOthersRow.holds Tryz.pinned (OpenSpec.ofChange sellOthersWrong)

/-- 'taffraillaw.SellOffers': WHATEVER THE INPUT: true; the input reads as it did. -/
def sellOffersSpec : ChangeSpec := { name := "sellOffers", fn := fun _ => fun
  | [d1, d2] => { results := [.lit (.bool true)], args := [d1, d2] }
  | _ => none }
def sellOffersRow : OpenClaim := { program := "ytlamhfbdeinkkaegreat", sum := "6691c583dbb126397ec301f9bbbc708c10a2fb8e7de4939042f9706c52386260", func := "taffrail/taffraillaw.SellOffers", spec := "sellOffers", inPlace := ["slices.overlaps[taffrail/api.Booking]"], unfollowed := true, recurses := true, plainKeys := false, apart := false }
def SellOffersSaid : Prop := sellOffersRow.holds Tryz.pinned (OpenSpec.ofChange sellOffersSpec)

/-- ITS FALSE NEIGHBOUR: 'it returns false'. Refute it at one input. -/
def sellOffersWrong : ChangeSpec := { name := "sellOffers", fn := fun _ => fun
  | [d1, d2] => { results := [.lit (.bool false)], args := [d1, d2] }
  | _ => none }
def SellOffersWrongFalsely : Prop := sellOffersRow.holds Tryz.pinned (OpenSpec.ofChange sellOffersWrong)

/-- 'taffraillaw.ChangeTells': WHATEVER THE INPUT: true; the input reads as it did. -/
def changeTellsSpec : ChangeSpec := { name := "changeTells", fn := fun _ => fun
  | [d1, d2, d3, d4] => { results := [.lit (.bool true)], args := [d1, d2, d3, d4] }
  | _ => none }
def changeTellsRow : OpenClaim := { program := "ytlamhfbdeinkkaegreat", sum := "6691c583dbb126397ec301f9bbbc708c10a2fb8e7de4939042f9706c52386260", func := "taffrail/taffraillaw.ChangeTells", spec := "changeTells", unfollowed := true, recurses := true, plainKeys := false, apart := false }
def ChangeTellsSaid : Prop := changeTellsRow.holds Tryz.pinned (OpenSpec.ofChange changeTellsSpec)

/-- ITS FALSE NEIGHBOUR: 'it returns false'. Refute it at one input. -/
def changeTellsWrong : ChangeSpec := { name := "changeTells", fn := fun _ => fun
  | [d1, d2, d3, d4] => { results := [.lit (.bool false)], args := [d1, d2, d3, d4] }
  | _ => none }
def ChangeTellsWrongFalsely : Prop := changeTellsRow.holds Tryz.pinned (OpenSpec.ofChange changeTellsWrong)

/-- 'taffraillaw.ChangeOthers': WHATEVER THE INPUT: true; the input reads as it did. -/
def changeOthersSpec : ChangeSpec := { name := "changeOthers", fn := fun _ => fun
  | [d1, d2, d3, d4] => { results := [.lit (.bool true)], args := [d1, d2, d3, d4] }
  | _ => none }
def changeOthersRow : OpenClaim := { program := "ytlamhfbdeinkkaegreat", sum := "6691c583dbb126397ec301f9bbbc708c10a2fb8e7de4939042f9706c52386260", func := "taffrail/taffraillaw.ChangeOthers", spec := "changeOthers", unfollowed := true, recurses := true, plainKeys := false, apart := false }
def ChangeOthersSaid : Prop := changeOthersRow.holds Tryz.pinned (OpenSpec.ofChange changeOthersSpec)

/-- ITS FALSE NEIGHBOUR: 'it returns false'. Refute it at one input. -/
def changeOthersWrong : ChangeSpec := { name := "changeOthers", fn := fun _ => fun
  | [d1, d2, d3, d4] => { results := [.lit (.bool false)], args := [d1, d2, d3, d4] }
  | _ => none }
def ChangeOthersWrongFalsely : Prop := changeOthersRow.holds Tryz.pinned (OpenSpec.ofChange changeOthersWrong)

/-- 'taffraillaw.ChangePaid': WHATEVER THE INPUT: true; the input reads as it did. -/
def changePaidSpec : ChangeSpec := { name := "changePaid", fn := fun _ => fun
  | [d1, d2, d3] => { results := [.lit (.bool true)], args := [d1, d2, d3] }
  | _ => none }
def changePaidRow : OpenClaim := { program := "ytlamhfbdeinkkaegreat", sum := "6691c583dbb126397ec301f9bbbc708c10a2fb8e7de4939042f9706c52386260", func := "taffrail/taffraillaw.ChangePaid", spec := "changePaid", unfollowed := true, recurses := true, plainKeys := false, apart := false }
def ChangePaidSaid : Prop := changePaidRow.holds Tryz.pinned (OpenSpec.ofChange changePaidSpec)

/-- ITS FALSE NEIGHBOUR: 'it returns false'. Refute it at one input. -/
def changePaidWrong : ChangeSpec := { name := "changePaid", fn := fun _ => fun
  | [d1, d2, d3] => { results := [.lit (.bool false)], args := [d1, d2, d3] }
  | _ => none }
def ChangePaidWrongFalsely : Prop := changePaidRow.holds Tryz.pinned (OpenSpec.ofChange changePaidWrong)

/-- 'taffraillaw.VoyageTells': WHATEVER THE INPUT: true; the input reads as it did. -/
def voyageTellsSpec : ChangeSpec := { name := "voyageTells", fn := fun _ => fun
  | [d1, d2] => { results := [.lit (.bool true)], args := [d1, d2] }
  | _ => none }
def voyageTellsRow : OpenClaim := { program := "ytlamhfbdeinkkaegreat", sum := "6691c583dbb126397ec301f9bbbc708c10a2fb8e7de4939042f9706c52386260", func := "taffrail/taffraillaw.VoyageTells", spec := "voyageTells", unfollowed := true, recurses := true, plainKeys := false, apart := false }
def VoyageTellsSaid : Prop := voyageTellsRow.holds Tryz.pinned (OpenSpec.ofChange voyageTellsSpec)

/-- ITS FALSE NEIGHBOUR: 'it returns false'. Refute it at one input. -/
def voyageTellsWrong : ChangeSpec := { name := "voyageTells", fn := fun _ => fun
  | [d1, d2] => { results := [.lit (.bool false)], args := [d1, d2] }
  | _ => none }
def VoyageTellsWrongFalsely : Prop := voyageTellsRow.holds Tryz.pinned (OpenSpec.ofChange voyageTellsWrong)

/- THE SECOND FORM. 'bulk': how many values and letters a reading holds, each counted each time it is reached (what is shared counts as often as it is met; a slice's spare places count too). A statement '..UptoSaid' is the law's where the arguments, and the package variables that the reading takes, are together of bulk at most 1048576: NARROWER than '..Said'. Prove '..Said' where nothing that the law and all that it calls make is longer than what came in: it says more and counts as full. Else prove '..UptoSaid'. A law counts once. -/
mutual
def uptoBulk {H : Type} : DataW H → Nat
  | .lit (.string bytes) => bytes.length + 1
  | .lit _ => 1
  | .nil => 1
  | .ptr d => uptoBulk d + 1
  | .slice elems spare => uptoBulkAll elems + uptoBulkAll spare + 1
  | .agg parts => uptoBulkAll parts + 1
  | .iface _ d => uptoBulk d + 1
  | .map entries => uptoBulkEntries entries + 1
  | .held _ => 1
def uptoBulkAll {H : Type} : List (DataW H) → Nat
  | [] => 0
  | d :: r => uptoBulk d + uptoBulkAll r
def uptoBulkEntries {H : Type} : List (Lit × DataW H) → Nat
  | [] => 0
  | x :: r => uptoBulkEntry x + uptoBulkEntries r
def uptoBulkEntry {H : Type} : Lit × DataW H → Nat
  | (.string bytes, d) => bytes.length + uptoBulk d + 1
  | (_, d) => uptoBulk d + 1
 end
def uptoSmall : (H : Type) → List (DataW H) → Bool := fun _ ds => decide (uptoBulkAll ds ≤ 1048576)
def OpenSpec.upto (s : _root_.Go.ChangeSpec) : _root_.Go.OpenSpec := { _root_.Go.OpenSpec.ofChange s with cond := some uptoSmall }

/-- 'taffraillaw.SellOthers', WHERE WHAT IT READS IS OF BULK AT MOST 1048576: true; the input reads as it did. -/
def sellOthersUptoRow : OpenClaim := { program := "ytlamhfbdeinkkaegreat", sum := "6691c583dbb126397ec301f9bbbc708c10a2fb8e7de4939042f9706c52386260", func := "taffrail/taffraillaw.SellOthers", spec := "sellOthers", inPlace := ["slices.overlaps[taffrail/api.Booking]"], unfollowed := true, recurses := true, plainKeys := false, apart := false, narrowed := true }
def SellOthersUptoSaid : Prop := sellOthersUptoRow.holds Tryz.pinned (OpenSpec.upto sellOthersSpec)

/-- 'taffraillaw.SellOffers', WHERE WHAT IT READS IS OF BULK AT MOST 1048576: true; the input reads as it did. -/
def sellOffersUptoRow : OpenClaim := { program := "ytlamhfbdeinkkaegreat", sum := "6691c583dbb126397ec301f9bbbc708c10a2fb8e7de4939042f9706c52386260", func := "taffrail/taffraillaw.SellOffers", spec := "sellOffers", inPlace := ["slices.overlaps[taffrail/api.Booking]"], unfollowed := true, recurses := true, plainKeys := false, apart := false, narrowed := true }
def SellOffersUptoSaid : Prop := sellOffersUptoRow.holds Tryz.pinned (OpenSpec.upto sellOffersSpec)

/-- 'taffraillaw.ChangeTells', WHERE WHAT IT READS IS OF BULK AT MOST 1048576: true; the input reads as it did. -/
def changeTellsUptoRow : OpenClaim := { program := "ytlamhfbdeinkkaegreat", sum := "6691c583dbb126397ec301f9bbbc708c10a2fb8e7de4939042f9706c52386260", func := "taffrail/taffraillaw.ChangeTells", spec := "changeTells", unfollowed := true, recurses := true, plainKeys := false, apart := false, narrowed := true }
def ChangeTellsUptoSaid : Prop := changeTellsUptoRow.holds Tryz.pinned (OpenSpec.upto changeTellsSpec)

/-- 'taffraillaw.ChangeOthers', WHERE WHAT IT READS IS OF BULK AT MOST 1048576: true; the input reads as it did. -/
def changeOthersUptoRow : OpenClaim := { program := "ytlamhfbdeinkkaegreat", sum := "6691c583dbb126397ec301f9bbbc708c10a2fb8e7de4939042f9706c52386260", func := "taffrail/taffraillaw.ChangeOthers", spec := "changeOthers", unfollowed := true, recurses := true, plainKeys := false, apart := false, narrowed := true }
def ChangeOthersUptoSaid : Prop := changeOthersUptoRow.holds Tryz.pinned (OpenSpec.upto changeOthersSpec)

/-- 'taffraillaw.ChangePaid', WHERE WHAT IT READS IS OF BULK AT MOST 1048576: true; the input reads as it did. -/
def changePaidUptoRow : OpenClaim := { program := "ytlamhfbdeinkkaegreat", sum := "6691c583dbb126397ec301f9bbbc708c10a2fb8e7de4939042f9706c52386260", func := "taffrail/taffraillaw.ChangePaid", spec := "changePaid", unfollowed := true, recurses := true, plainKeys := false, apart := false, narrowed := true }
def ChangePaidUptoSaid : Prop := changePaidUptoRow.holds Tryz.pinned (OpenSpec.upto changePaidSpec)

/-- 'taffraillaw.VoyageTells', WHERE WHAT IT READS IS OF BULK AT MOST 1048576: true; the input reads as it did. -/
def voyageTellsUptoRow : OpenClaim := { program := "ytlamhfbdeinkkaegreat", sum := "6691c583dbb126397ec301f9bbbc708c10a2fb8e7de4939042f9706c52386260", func := "taffrail/taffraillaw.VoyageTells", spec := "voyageTells", unfollowed := true, recurses := true, plainKeys := false, apart := false, narrowed := true }
def VoyageTellsUptoSaid : Prop := voyageTellsUptoRow.holds Tryz.pinned (OpenSpec.upto voyageTellsSpec)

end Rows
end Go.Proofs.YtlamhfbdeinkkaeGreat
