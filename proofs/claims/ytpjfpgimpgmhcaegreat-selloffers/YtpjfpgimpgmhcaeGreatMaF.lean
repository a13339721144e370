import Derived.Test.YtpjfpgimpgmhcaeGreatMaE
set_option maxRecDepth 10000
/- Walks of the reference's IsMatching and DoLack, of what is a matching and of what lacks. -/
namespace Go.Proofs.YtpjfpgimpgmhcaeGreat.Ma
open Go.RowKit Go.Maps Go.WideMaps
set_option linter.unusedSimpArgs false
set_option linter.unusedVariables false

end Go.Proofs.YtpjfpgimpgmhcaeGreat.Ma
/- The walk of the reference's DoLack, of left ones that lack. -/
namespace Go.Proofs.YtpjfpgimpgmhcaeGreat.Ma
open Go.RowKit Go.Maps Go.WideMaps
set_option linter.unusedSimpArgs false
set_option linter.unusedVariables false

end Go.Proofs.YtpjfpgimpgmhcaeGreat.Ma
/- Walks of pairs, matchBegun; of the laws MatchEither and MatchAlone. -/
namespace Go.Proofs.YtpjfpgimpgmhcaeGreat.Ma
open Go.RowKit Go.Maps Go.WideMaps
set_option linter.unusedSimpArgs false
set_option linter.unusedVariables false

def P.pairs : List Edge := [(0, 1), (1, 1), (2, 0), (2, 1)]
end Go.Proofs.YtpjfpgimpgmhcaeGreat.Ma
/- The walk of the reference's grow: the same search, over lists. -/
namespace Go.Proofs.YtpjfpgimpgmhcaeGreat.Ma
open Go.RowKit Go.Maps Go.WideMaps
set_option linter.unusedSimpArgs false
set_option linter.unusedVariables false

/-- A matching in memory, as the reference has it: G who has each right one (C cells, those behind R are h's), M who was met. -/
structure GSt (w : World) (G M C : Nat) (h : Nat → Value) (R : Nat) (s : Nat → Int) (A : List Int) : Prop where
  owner : w.rowIs G 3 C (fun r => if r < R then .int .i64 (s r) else h r)
  met : w.rowIs M 4 R (fun r => .bool (P.hasInt A r))
  gm : G ≠ M
theorem GSt.cellAt {w : World} {G M C : Nat} {h : Nat → Value} {R : Nat} {s : Nat → Int} {A : List Int} (k : GSt w G M C h R s A) (hC : R ≤ C) {r : Nat} (hr : r < R) : w.cell? ⟨G, r, none⟩ = some (.int .i64 (s r)) := by
  rw [k.owner.cell (by omega), if_pos hr]

end Go.Proofs.YtpjfpgimpgmhcaeGreat.Ma
/- The walk of the reference's Size; of the law MatchTells. -/
namespace Go.Proofs.YtpjfpgimpgmhcaeGreat.Ma
open Go.RowKit Go.Maps Go.WideMaps
set_option linter.unusedSimpArgs false
set_option linter.unusedVariables false

end Go.Proofs.YtpjfpgimpgmhcaeGreat.Ma
