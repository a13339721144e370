/- Package stock: Promises, Free. -/
import Derived.Test.YtlamhfbdeinkkaeGreatStNp
import Derived.Lib.AppendZerosOnto
import Derived.Lib.AppendZeros
namespace Go.Proofs.YtlamhfbdeinkkaeGreat.St
open Go.RowKit Bk
set_option linter.unusedSimpArgs false
set_option linter.unusedVariables false
set_option maxRecDepth 10000

theorem pre_zero {x : Sail} (h : P.pre x = 0) : P.frame x = 0 ∧ P.bksI x.s 0 x.bks = 0 ∧ x.bks.any (P.clB x) = false := by
  unfold P.pre at h
  split at h
  · split at h
    · split at h
      · omega
      · rename_i h1 h2 h3
        exact ⟨h1, h2, by simpa using h3⟩
    · contradiction
  · contradiction
/-- A sailing that is right. -/
theorem sail_ok {x : Sail} (h : P.SailE x 0) : P.pre x = 0 ∧ P.frame x = 0 ∧ P.shp x.s = 0 ∧ (∀ b ∈ x.bks, P.bkE x.s b = 0) ∧ x.bks.length ≤ 16 ∧ P.twice x = false ∧ P.many x = false ∧ ∃ c, Ma.MaxM (P.pedg x.s x.bks 0 x.bks) c ∧ (P.pids x.bks).length ≤ c := by
  rcases h with ⟨h1, h2⟩ | ⟨h1, q, hq, hr⟩
  · exact absurd h2.symm h1
  · obtain ⟨hf, hb, _⟩ := pre_zero h1
    obtain ⟨h0, _, _, _, h16⟩ := frame_zero hf
    refine ⟨h1, hf, h0, bksI_ok hb, h16, ?_⟩
    rcases hq with ⟨a, rfl⟩ | ⟨a, b, rfl⟩ | ⟨a, b, c, hc, rfl⟩
    · simp at hr
    · simp at hr
    · refine ⟨a, b, c, hc, ?_⟩
      split at hr
      · simp at hr
      · omega
def P.ok {α : Type} (r : Int) (l : List α) : List α := if r = 0 then l else []

end Go.Proofs.YtlamhfbdeinkkaeGreat.St
namespace Go.Proofs.YtlamhfbdeinkkaeGreat.St
open Go.RowKit Bk
set_option linter.unusedSimpArgs false
set_option linter.unusedVariables false
set_option maxRecDepth 10000

theorem grown_own (w : World) (z : Array Value) (hz : z.size = 11) (n G : Nat) (hG : G ≤ maxLen) (hn : n ≤ G) : OwnB (w.alloc (.cells (Builtin.zeroCells z n ++ Builtin.zeroCells z (G - n)) 37)).drew w.heap.size (.slice (some ⟨w.heap.size, 0, none⟩) 0 G) ([] : List BkV) := by
  refine ⟨rfl, Or.inr ⟨w.heap.size, G, _, rfl, Nat.le_refl _, heap_alloc_new w _, Nat.zero_le _, hG, ?_, by simp⟩⟩
  simp only [Array.size_append, size_zeroCells, hz]
  omega

set_option maxHeartbeats 2000000 in
theorem grow_nil (n : Nat) (h0 : 0 < n) (hn : n ≤ 1000) (w : World) :
    Calls Tryz.prog 200 #[.slice none 0 0, .int .i64 n] w fun e w' => ∃ v, e = .returned v ∧ OwnB w' w.heap.size v [] ∧ Below w.heap.size w w' := by
  obtain ⟨i0, hi, hi0, hi1, hi2⟩ := info_parts Tryz.infoBk
  have hrz : ∀ ty, (Builtin.append_ #[30, 3] ty #[.slice none 0 0, .int .i64 n]).run Tryz.prog w = _ := fun ty =>
    Lib.run_append_grow_zeros w 30 3 ty 37 i0 _ .i64 .i64 Tryz.underlying30 Tryz.underlying3 hi hi0 none 0 0 [] (by exact run_firstCells_none w.drew i0.size 0 0 0) n h0 (by omega) (by omega) (by omega) (by rw [hi2]; omega) (growslice_fits (by omega) (by rw [hi2]; omega))
  simp only [Nat.zero_add] at hrz
  have hG := grownCap_le_maxLen w n 0 37 (by unfold maxLen; omega)
  have hG2 := grownCap_ge w n 0 37
  generalize grownCap w n 0 37 = G at hrz hG hG2
  have HOW : Aside (OwnB (w.alloc (.cells (Builtin.zeroCells #[.int .i64 0, .int .i64 0, .int .i64 0, .int .i64 0, .bool false, .int .i64 0, .int .i64 0, .int .i64 0, .int .i64 0, .int .i64 0, .slice none 0 0] n ++ Builtin.zeroCells #[.int .i64 0, .int .i64 0, .int .i64 0, .int .i64 0, .bool false, .int .i64 0, .int .i64 0, .int .i64 0, .int .i64 0, .int .i64 0, .slice none 0 0] (G - n)) 37)).drew w.heap.size (.slice (some ⟨w.heap.size, 0, none⟩) 0 G) ([] : List BkV)) := grown_own w _ rfl n G hG hG2
  have HBE : Aside (∀ o : Obj, Below w.heap.size w (w.alloc o).drew) := fun o => by go_grown
  unfold maxLen at hG
  have hni : ¬ ((n : Int) < 0) := by omega
  have hnp : (0 : Int) < n := by omega
  go_enter Tryz.func200, Tryz.ntmps200
  go_wp2_with (at_builtin; refine Lib.wpList_append_run _ rfl _ _ _ _ rfl _ _ rfl rfl _ _ (hrz _) ?_)
  all_goals
    go_ret
    exact ⟨.slice (some ⟨w.heap.size, 0, none⟩) 0 G, rfl, HOW.out, HBE.out _⟩

/-- Slices of bookings, in a slice. -/
def RBs (w : World) (l : List BkV) (cs : List Value) : Prop := ∃ ao cap, cs = [.slice ao l.length cap] ∧ SlAt (RC cellsV) 11 w ao cap l
theorem RBs.mono : Mono RBs := fun w w' x cs hb ⟨ao, cap, h1, h2⟩ => ⟨ao, cap, h1, SlAt.below (RC.mono _) h2 hb⟩
abbrev BssAt (w : World) (ao : Option Addr) (cap : Nat) (l : List (List BkV)) : Prop := SlAt RBs 1 w ao cap l
theorem BssAt.get {w w' : World} {ao : Option Addr} {cap : Nat} {l : List (List BkV)} (h : BssAt w ao cap l) (hb : Below w.heap.size w w') (k : Nat) (hk : k < l.length) :
    ∃ b off, ∃ y : List BkV, ∃ yo yc, ao = some ⟨b, off, none⟩ ∧ b < w.heap.size ∧ l.drop k = y :: l.drop (k + 1) ∧ w'.cell? ⟨b, off + k, none⟩ = some (.slice yo y.length yc) ∧ SlAt (RC cellsV) 11 w' yo yc y := by
  obtain ⟨b, off, x, cs, h1, h2, h3, ⟨yo, yc, rfl, h4⟩, h5, h6⟩ := SlAt.get RBs.mono h hb k hk
  exact ⟨b, off, x, yo, yc, h1, h2, h3, by simpa using h6 0 _ rfl, h4⟩

end Go.Proofs.YtlamhfbdeinkkaeGreat.St
namespace Go.Proofs.YtlamhfbdeinkkaeGreat.St
open Go.RowKit Bk
set_option linter.unusedSimpArgs false
set_option linter.unusedVariables false
set_option maxRecDepth 10000

def P.insB (z : Bkg) (l : List Bkg) : List Bkg := l.filter (fun y => decide (y.id < z.id)) ++ z :: l.filter (fun y => decide (z.id < y.id))
/-- H3: a sailing with one booking more. -/
def P.withB (x : Sail) (b : Bkg) : Sail := ⟨x.s, x.L, x.al, x.th, x.B, x.dn, x.day, x.lvs, P.insB b x.bks, x.cl⟩
def P.couldE (x : Sail) (b : Bkg) (r : Int) : Int := if r = 0 then (if P.bkE x.s b = 0 then (if x.bks.any (fun y => decide (y.id = b.id)) = true then 6 else 0) else P.bkE x.s b) else r

end Go.Proofs.YtlamhfbdeinkkaeGreat.St
