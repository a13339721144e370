/- slices.Grow, slices.Concat over bookings; package stock: with. -/
import Derived.Test.YtlamhfbdeinkkaeGreatStOr
import Derived.Lib.AppendZerosOnto
import Derived.Lib.AppendZeros
namespace Go.Proofs.YtlamhfbdeinkkaeGreat.St
open Go.RowKit Bk
set_option linter.unusedSimpArgs false
set_option linter.unusedVariables false
set_option maxRecDepth 10000

theorem grown_own (w : World) (z : Array Value) (hz : z.size = 11) (n G : Nat) (hG : G ≤ maxLen) (hn : n ≤ G) : OwnB (w.alloc (.cells (Builtin.zeroCells z n ++ Builtin.zeroCells z (G - n)) 37)).drew w.heap.size (.slice (some ⟨w.heap.size, 0, none⟩) 0 G) ([] : List BkV) := by
  refine ⟨rfl, Or.inr ⟨w.heap.size, G, _, rfl, Nat.le_refl _, heap_alloc_new w _, Nat.zero_le _, hG, ?_, by simp⟩⟩
  simp only [Array.size_append, size_zeroCells, hz]
  omega

set_option maxHeartbeats 2000000 in
theorem grow_nil (n : Nat) (h0 : 0 < n) (hn : n ≤ 1000) (w : World) :
    Calls Tryz.prog 200 #[.slice none 0 0, .int .i64 n] w fun e w' => ∃ v, e = .returned v ∧ OwnB w' w.heap.size v [] ∧ Below w.heap.size w w' := by
  obtain ⟨i0, hi, hi0, hi1, hi2⟩ := info_parts Tryz.infoBk
  have hrz : ∀ ty, (Builtin.append_ #[30, 3] ty #[.slice none 0 0, .int .i64 n]).run Tryz.prog w = _ := fun ty =>
    Lib.run_append_grow_zeros w 30 3 ty 37 i0 _ .i64 .i64 Tryz.underlying30 Tryz.underlying3 hi hi0 none 0 0 [] (by exact run_firstCells_none w.drew i0.size 0 0 0) n h0 (by omega) (by omega) (by omega) (by rw [hi2]; omega) (growslice_fits (by omega) (by rw [hi2]; omega))
  simp only [Nat.zero_add] at hrz
  have hG := grownCap_le_maxLen w n 0 37 (by unfold maxLen; omega)
  have hG2 := grownCap_ge w n 0 37
  generalize grownCap w n 0 37 = G at hrz hG hG2
  have HOW : Aside (OwnB (w.alloc (.cells (Builtin.zeroCells #[.int .i64 0, .int .i64 0, .int .i64 0, .int .i64 0, .bool false, .int .i64 0, .int .i64 0, .int .i64 0, .int .i64 0, .int .i64 0, .slice none 0 0] n ++ Builtin.zeroCells #[.int .i64 0, .int .i64 0, .int .i64 0, .int .i64 0, .bool false, .int .i64 0, .int .i64 0, .int .i64 0, .int .i64 0, .int .i64 0, .slice none 0 0] (G - n)) 37)).drew w.heap.size (.slice (some ⟨w.heap.size, 0, none⟩) 0 G) ([] : List BkV)) := grown_own w _ rfl n G hG hG2
  have HBE : Aside (∀ o : Obj, Below w.heap.size w (w.alloc o).drew) := fun o => by go_grown
  unfold maxLen at hG
  have hni : ¬ ((n : Int) < 0) := by omega
  have hnp : (0 : Int) < n := by omega
  go_enter Tryz.func200, Tryz.ntmps200
  go_wp2_with (at_builtin; refine Lib.wpList_append_run _ rfl _ _ _ _ rfl _ _ rfl rfl _ _ (hrz _) ?_)
  all_goals
    go_ret
    exact ⟨.slice (some ⟨w.heap.size, 0, none⟩) 0 G, rfl, HOW.out, HBE.out _⟩

/-- Slices of bookings, in a slice. -/
def RBs (w : World) (l : List BkV) (cs : List Value) : Prop := ∃ ao cap, cs = [.slice ao l.length cap] ∧ SlAt (RC cellsV) 11 w ao cap l
theorem RBs.mono : Mono RBs := fun w w' x cs hb ⟨ao, cap, h1, h2⟩ => ⟨ao, cap, h1, SlAt.below (RC.mono _) h2 hb⟩
abbrev BssAt (w : World) (ao : Option Addr) (cap : Nat) (l : List (List BkV)) : Prop := SlAt RBs 1 w ao cap l
theorem BssAt.get {w w' : World} {ao : Option Addr} {cap : Nat} {l : List (List BkV)} (h : BssAt w ao cap l) (hb : Below w.heap.size w w') (k : Nat) (hk : k < l.length) :
    ∃ b off, ∃ y : List BkV, ∃ yo yc, ao = some ⟨b, off, none⟩ ∧ b < w.heap.size ∧ l.drop k = y :: l.drop (k + 1) ∧ w'.cell? ⟨b, off + k, none⟩ = some (.slice yo y.length yc) ∧ SlAt (RC cellsV) 11 w' yo yc y := by
  obtain ⟨b, off, x, cs, h1, h2, h3, ⟨yo, yc, rfl, h4⟩, h5, h6⟩ := SlAt.get RBs.mono h hb k hk
  exact ⟨b, off, x, yo, yc, h1, h2, h3, by simpa using h6 0 _ rfl, h4⟩

theorem sum_on {l : List (List BkV)} {k : Nat} {y : List BkV} (hk : k < l.length) (hd : l.drop k = y :: l.drop (k + 1)) : (l.take (k + 1)).flatten = (l.take k).flatten ++ y := by
  rw [take_snoc' hk hd, List.flatten_append]
  simp
theorem flat_le {l : List (List BkV)} {k : Nat} : (l.take k).flatten.length ≤ l.flatten.length := by
  have : l.flatten.length = (l.take k).flatten.length + (l.drop k).flatten.length := by rw [← List.length_append, ← List.flatten_append, List.take_append_drop]
  omega

set_option maxHeartbeats 4000000 in
theorem concat_own (ao : Option Addr) (cap : Nat) (ll : List (List BkV)) (w : World) (hl : BssAt w ao cap ll) (h0 : 0 < ll.flatten.length) (h1 : ll.flatten.length ≤ 1000) (h2 : ll.length ≤ 1000) :
    Calls Tryz.prog 159 #[.slice ao ll.length cap] w fun e w' => ∃ v, e = .returned v ∧ OwnB w' w.heap.size v ll.flatten ∧ Below w.heap.size w w' := by
  have hle := hl.le
  have hmx := hl.max
  unfold maxLen at hmx
  go_enter Tryz.func159, Tryz.ntmps159
  go_wp2
  go_loopg [3, 11] ll.length (fun g v i wr => ∃ (k n : Nat), k ≤ ll.length ∧ g = ll.length - k ∧ i = .int .i64 k ∧ v = .int .i64 n ∧ Aside (n = (ll.take k).flatten.length) ∧ wr = w)
  case atStart => exact ⟨0, 0, Nat.zero_le _, rfl, rfl, rfl, rfl, rfl⟩
  case round =>
    obtain ⟨k, n, hk, rfl, rfl, rfl, HN, rfl⟩ := hrel
    by_cases hlt : k < ll.length
    · obtain ⟨b, off, y, yo, yc, hao, hbw, hd, hc0, hy⟩ := hl.get (Below.refl _ _) k hlt
      have HS : Aside (n + y.length = (ll.take (k + 1)).flatten.length) := by show _ = _; rw [sum_on hlt hd, List.length_append, HN.out]
      have hS : n + y.length ≤ 1000 := by rw [HS.out]; exact Nat.le_trans flat_le h1
      have hyle := hy.le
      have HAO : Aside (ao = some ⟨b, off, none⟩) := hao
      have hkl : (k : Int) < ll.length := by omega
      have hni : ¬ ((n : Int) + y.length < 0) := by omega
      rw [hao]
      clear hd hao HN
      go_wp2
      rw [← HAO.out]
      go_roundg (ll.length - (k + 1))
      case measure => omega
      case rel => exact ⟨k + 1, n + y.length, by omega, rfl, by go_num, by go_num, HS, rfl⟩
    · obtain rfl : k = ll.length := by omega
      have hn : n = ll.flatten.length := by have := HN.out; rwa [List.take_of_length_le (Nat.le_refl _)] at this
      have hn0 : 0 < n := by omega
      have hn1 : n ≤ 1000 := by omega
      clear HN hn
      go_wp2_with fail
      refine (grow_nil n hn0 hn1 _).mono ?_
      rintro e w1 ⟨v1, rfl, own1, hb1⟩
      obtain ⟨wo, rfl⟩ : ∃ wo : World, wo = wr := ⟨_, rfl⟩
      have HO1 : Aside (OwnB w1 wo.heap.size v1 []) := own1
      clear own1
      go_wp2
      go_loopg [6, 27] ll.length (fun g v i wx => ∃ (k : Nat), k ≤ ll.length ∧ g = ll.length - k ∧ i = .int .i64 k ∧ OwnB wx wo.heap.size v ((ll.take k).flatten) ∧ Below wo.heap.size wo wx)
      case atStart => exact ⟨0, Nat.zero_le _, rfl, rfl, by simpa using HO1.out, hb1⟩
      case round =>
        clear HO1 hb1
        obtain ⟨k, hk2, rfl, rfl, hown, hB⟩ := hrel
        by_cases hlt2 : k < ll.length
        · obtain ⟨b, off, y, yo, yc, hao, hbw, hd, hc0, hy⟩ := hl.get hB k hlt2
          have HS : Aside ((ll.take (k + 1)).flatten = (ll.take k).flatten ++ y) := sum_on hlt2 hd
          have hS : (ll.take (k + 1)).flatten.length ≤ 1000 := Nat.le_trans flat_le h1
          rw [HS.out, List.length_append] at hS
          generalize (ll.take k).flatten = L0 at hown HS hS
          have HAO : Aside (ao = some ⟨b, off, none⟩) := hao
          have HOW : Aside (OwnB wr wo.heap.size u6 L0) := hown
          have HY : Aside (SlAt (RC cellsV) 11 wr yo yc y) := hy
          have hkl : (k : Int) < ll.length := by omega
          have hsz := hB.size
          rw [hao]
          clear hd hao hown hy
          go_wp2_with (at_builtin; refine wpList_app_many Tryz.infoBk Tryz.underlying30 rfl (by decide) cellsV_len cellsV_one (by decide) (by rfl) _ _ (by rfl) wo.heap.size _ L0 yo yc y (by rfl) HOW.out (by rfl) HY.out hsz (by omega) (by omega) ?_; intro v4 w4 hown4 hgr4)
          have hB4 : Below wo.heap.size wo w4 := OwnC.grown hB HOW.out (Nat.le_refl _) hgr4
          rw [← HS.out] at hown4
          rw [← HAO.out]
          go_wp2
          go_roundg (ll.length - (k + 1))
          case measure => omega
          case rel => exact ⟨k + 1, by omega, rfl, by go_num, hown4, hB4⟩
        · obtain rfl : k = ll.length := by omega
          rw [List.take_of_length_le (Nat.le_refl _)] at hown
          go_wp2
          go_ret
          exact ⟨u6, rfl, hown, hB⟩

end Go.Proofs.YtlamhfbdeinkkaeGreat.St
