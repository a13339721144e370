/- Package stock: Promises, Free. -/
import Derived.Test.YtlamhfbdeinkkaeGreatStNs
import Derived.Lib.AppendZerosOnto
import Derived.Lib.AppendZeros
namespace Go.Proofs.YtlamhfbdeinkkaeGreat.St
open Go.RowKit Bk
set_option linter.unusedSimpArgs false
set_option linter.unusedVariables false
set_option maxRecDepth 10000

theorem pre_zero {x : Sail} (h : P.pre x = 0) : P.frame x = 0 ∧ P.bksI x.s 0 x.bks = 0 ∧ x.bks.any (P.clB x) = false := by
  unfold P.pre at h
  split at h
  · split at h
    · split at h
      · omega
      · rename_i h1 h2 h3
        exact ⟨h1, h2, by simpa using h3⟩
    · contradiction
  · contradiction
/-- A sailing that is right. -/
theorem sail_ok {x : Sail} (h : P.SailE x 0) : P.pre x = 0 ∧ P.frame x = 0 ∧ P.shp x.s = 0 ∧ (∀ b ∈ x.bks, P.bkE x.s b = 0) ∧ x.bks.length ≤ 16 ∧ P.twice x = false ∧ P.many x = false ∧ ∃ c, Ma.MaxM (P.pedg x.s x.bks 0 x.bks) c ∧ (P.pids x.bks).length ≤ c := by
  rcases h with ⟨h1, h2⟩ | ⟨h1, q, hq, hr⟩
  · exact absurd h2.symm h1
  · obtain ⟨hf, hb, _⟩ := pre_zero h1
    obtain ⟨h0, _, _, _, h16⟩ := frame_zero hf
    refine ⟨h1, hf, h0, bksI_ok hb, h16, ?_⟩
    rcases hq with ⟨a, rfl⟩ | ⟨a, b, rfl⟩ | ⟨a, b, c, hc, rfl⟩
    · simp at hr
    · simp at hr
    · refine ⟨a, b, c, hc, ?_⟩
      split at hr
      · simp at hr
      · omega
def P.ok {α : Type} (r : Int) (l : List α) : List α := if r = 0 then l else []

end Go.Proofs.YtlamhfbdeinkkaeGreat.St
namespace Go.Proofs.YtlamhfbdeinkkaeGreat.St
open Go.RowKit Bk
set_option linter.unusedSimpArgs false
set_option linter.unusedVariables false
set_option maxRecDepth 10000

/-- Slices of bookings, in a slice. -/
def RBs (w : World) (l : List BkV) (cs : List Value) : Prop := ∃ ao cap, cs = [.slice ao l.length cap] ∧ SlAt (RC cellsV) 11 w ao cap l
theorem RBs.mono : Mono RBs := fun w w' x cs hb ⟨ao, cap, h1, h2⟩ => ⟨ao, cap, h1, SlAt.below (RC.mono _) h2 hb⟩
abbrev BssAt (w : World) (ao : Option Addr) (cap : Nat) (l : List (List BkV)) : Prop := SlAt RBs 1 w ao cap l
theorem BssAt.get {w w' : World} {ao : Option Addr} {cap : Nat} {l : List (List BkV)} (h : BssAt w ao cap l) (hb : Below w.heap.size w w') (k : Nat) (hk : k < l.length) :
    ∃ b off, ∃ y : List BkV, ∃ yo yc, ao = some ⟨b, off, none⟩ ∧ b < w.heap.size ∧ l.drop k = y :: l.drop (k + 1) ∧ w'.cell? ⟨b, off + k, none⟩ = some (.slice yo y.length yc) ∧ SlAt (RC cellsV) 11 w' yo yc y := by
  obtain ⟨b, off, x, cs, h1, h2, h3, ⟨yo, yc, rfl, h4⟩, h5, h6⟩ := SlAt.get RBs.mono h hb k hk
  exact ⟨b, off, x, yo, yc, h1, h2, h3, by simpa using h6 0 _ rfl, h4⟩

end Go.Proofs.YtlamhfbdeinkkaeGreat.St
namespace Go.Proofs.YtlamhfbdeinkkaeGreat.St
open Go.RowKit Bk
set_option linter.unusedSimpArgs false
set_option linter.unusedVariables false
set_option maxRecDepth 10000

def P.insB (z : Bkg) (l : List Bkg) : List Bkg := l.filter (fun y => decide (y.id < z.id)) ++ z :: l.filter (fun y => decide (z.id < y.id))
theorem one_bk (w : World) (b : Bkg) (fo : Option Addr) (fc : Nat) : SlAt (RC cellsV) 11 (W.bk w b fo fc) (some ⟨w.heap.size, 0, none⟩) 1 [(b, fo, fc)] :=
  SlAt.ofBlock (l := [(b, fo, fc)]) [cellsV (b, fo, fc)] (heap_alloc_new _ _) rfl rfl (fun i hi => by
    have hi : i < 1 := hi
    match i, hi with
    | 0, _ => exact ⟨_, rfl, rfl⟩) (by intro c hc; simp at hc; subst hc; rfl) (by simp [maxLen])
/-- H3: a sailing with one booking more. -/
def P.withB (x : Sail) (b : Bkg) : Sail := ⟨x.s, x.L, x.al, x.th, x.B, x.dn, x.day, x.lvs, P.insB b x.bks, x.cl⟩
end Go.Proofs.YtlamhfbdeinkkaeGreat.St
