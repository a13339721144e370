/- Walks of named, promised, bookBegun. -/
import Derived.Test.YtgopdnlmiloipadBkM
import Derived.Test.YtgopdnlmiloipadMaB
namespace Go.Proofs.Ytgopdnlmiloipad.Bk
open Go.RowKit
set_option linter.unusedSimpArgs false
set_option linter.unusedVariables false

def T.N : Bkg := ⟨7, 1, 2, 3, false, 1, 0, 1, 3, 0, []⟩
def T.Q : Bkg := ⟨9, 2, 1, 2, false, -1, 0, 0, 3, 4, []⟩
def T.V : Vsl := ⟨3, 6, Sh.vcats, Sh.vcabs⟩
def T.L : List Bkg := [T.N, T.Q]

theorem t_sp : P.spE T.V T.L 1 = 0 ∧ P.spL T.V T.L 1 = [(1, 3)] := by decide +kernel
theorem t_so : P.soE T.V T.L = 0 ∧ P.soL T.V T.L = [2, 5, 5] := by decide +kernel
theorem t_n : P.checkE T.V T.N = 0 := by decide +kernel
theorem t_q : P.checkE T.V T.Q = 0 := by decide +kernel

set_option maxHeartbeats 400000 in
theorem named_any (w : World) : Calls Try.prog 34 #[] w fun e w' => e = .returned (V.bk T.N none 0) ∧ Below w.heap.size w w' := by
  go_enter Try.func34, Try.ntmps34
  go_wp2
  exact bodyPost_ret (v := V.bk T.N none 0) (by simp [results, Try.results34, go_sem, T.N]) rfl ⟨rfl, by go_grown⟩
set_option maxHeartbeats 400000 in
theorem promised_any (w : World) : Calls Try.prog 35 #[] w fun e w' => e = .returned (V.bk T.Q none 0) ∧ Below w.heap.size w w' := by
  go_enter Try.func35, Try.ntmps35
  go_wp2
  exact bodyPost_ret (v := V.bk T.Q none 0) (by simp [results, Try.results35, go_sem, T.Q]) rfl ⟨rfl, by go_grown⟩
theorem vsl_any (w : World) : Calls Try.prog 36 #[] w fun e w' => ∃ cao bao, e = .returned (V.vsl T.V ⟨cao, bao, 3, 3⟩) ∧ VslAt w' T.V ⟨cao, bao, 3, 3⟩ ∧ Below w.heap.size w w' := Sh.vessel_any w

theorem two_at (w : World) : BksAt (w.alloc (.cells #[.int .i64 7, .int .i64 1, .int .i64 2, .int .i64 3, .bool false, .int .i64 1, .int .i64 0, .int .i64 1, .int .i64 3, .int .i64 0, .slice none 0 0, .int .i64 9, .int .i64 2, .int .i64 1, .int .i64 2, .bool false, .int .i64 (-1), .int .i64 0, .int .i64 0, .int .i64 3, .int .i64 4, .slice none 0 0] 30)) (some ⟨w.heap.size, 0, none⟩) 2 T.L :=
  SlAt.ofBlock (l := T.L) [cellsBk T.N none 0, cellsBk T.Q none 0] (heap_alloc_new _ _) rfl rfl (fun i hi => by
    have hi : i < 2 := hi
    match i, hi with
    | 0, _ => exact ⟨_, rfl, none, 0, rfl, SlAt.nilOf _⟩
    | 1, _ => exact ⟨_, rfl, none, 0, rfl, SlAt.nilOf _⟩) (by intro c hc; simp at hc; rcases hc with rfl | rfl <;> rfl) (by decide)
theorem span_at (w : World) (f t : Int) : Sp.SpAt (w.alloc (.cells #[.int .i64 f, .int .i64 t] 27)) (some ⟨w.heap.size, 0, none⟩) 1 [(f, t)] :=
  ⟨by simp, by simp [maxLen], (fun h => by cases h), fun _ => ⟨w.heap.size, 0, rfl, by simp, fun i hi => by
    have hi : i < 1 := hi
    match i, hi with
    | 0, _ => simp⟩⟩
theorem ints_at (w : World) (a b c : Int) : IntsAt (w.alloc (.cells #[.int .i64 a, .int .i64 b, .int .i64 c] 3)) (some ⟨w.heap.size, 0, none⟩) 3 [a, b, c] :=
  SlAt.ofBlock (l := [a, b, c]) [[.int .i64 a], [.int .i64 b], [.int .i64 c]] (heap_alloc_new _ _) rfl rfl (fun i hi => by
    have hi : i < 3 := hi
    match i, hi with
    | 0, _ => exact ⟨_, rfl, rfl⟩
    | 1, _ => exact ⟨_, rfl, rfl⟩
    | 2, _ => exact ⟨_, rfl, rfl⟩) (by simp) (by simp [maxLen])

set_option maxRecDepth 4000 in
set_option maxHeartbeats 4000000 in
theorem bookBegun_any (w : World) :
    Calls Try.prog 12 #[] w fun e w' => e = .returned (.bool true) ∧ Below w.heap.size w w' := by
  go_enter Try.func12, Try.ntmps12
  go_wp2_with fail
  refine (named_any _).mono ?_
  rintro e w1 ⟨rfl, hb1⟩
  go_wp2_with fail
  refine (promised_any _).mono ?_
  rintro e w2 ⟨rfl, hb2⟩
  have l2 := two_at w2
  have hbB : Below w2.heap.size w2 (w2.alloc (.cells #[.int .i64 7, .int .i64 1, .int .i64 2, .int .i64 3, .bool false, .int .i64 1, .int .i64 0, .int .i64 1, .int .i64 3, .int .i64 0, .slice none 0 0, .int .i64 9, .int .i64 2, .int .i64 1, .int .i64 2, .bool false, .int .i64 (-1), .int .i64 0, .int .i64 0, .int .i64 3, .int .i64 4, .slice none 0 0] 30)) := by go_grown
  go_wp2_with fail
  refine (vsl_any _).mono ?_
  rintro e w3 ⟨c3, b3, rfl, s3, hb3⟩
  go_wp2_with fail
  refine (spans_any T.V _ _ 2 T.L 1 _ s3 (SlAt.below RBk.mono l2 hb3)).mono ?_
  rintro e w4 ⟨v4, rfl, own4, hb4⟩
  rw [t_sp.1]
  rw [t_sp.2] at own4
  obtain ⟨ao4, cap4, rfl, a4⟩ := Sp.Own.at own4
  go_wp2_with fail
  refine (vsl_any _).mono ?_
  rintro e w5 ⟨c5, b5, rfl, s5, hb5⟩
  go_wp2_with fail
  refine (souls_any T.V _ _ 2 T.L _ s5 (SlAt.below RBk.mono l2 (bvia hb3 (bvia hb4 hb5))) (by decide)).mono ?_
  rintro e w6 ⟨v6, rfl, own6, hb6⟩
  rw [t_so.1]
  rw [t_so.2] at own6
  obtain ⟨ao6, cap6, rfl, a6⟩ := Ma.OwnI.at own6
  go_wp2_with fail
  refine (vsl_any _).mono ?_
  rintro e w7 ⟨c7, b7, rfl, s7, hb7⟩
  go_wp2_with fail
  refine (named_any _).mono ?_
  rintro e w8 ⟨rfl, hb8⟩
  go_wp2_with fail
  refine (bookCheck_any T.V _ T.N none 0 _ (s7.below hb8) (SlAt.nilOf _)).mono ?_
  rintro e w9 ⟨rfl, hb9⟩
  rw [t_n]
  go_wp2_with fail
  refine (vsl_any _).mono ?_
  rintro e wa ⟨ca, ba, rfl, sa, hba⟩
  go_wp2_with fail
  refine (promised_any _).mono ?_
  rintro e wb ⟨rfl, hbb⟩
  go_wp2_with fail
  refine (bookCheck_any T.V _ T.Q none 0 _ (sa.below hbb) (SlAt.nilOf _)).mono ?_
  rintro e wc ⟨rfl, hbc⟩
  rw [t_q]
  have k7c : Below w6.heap.size w6 wc := bvia hb7 (bvia hb8 (bvia hb9 (bvia hba (bvia hbb hbc))))
  have k4c : Below w4.heap.size w4 wc := bvia hb5 (bvia hb6 k7c)
  go_wp2_with fail
  refine (Sp.sameSpans_any _ _ _ _ [(1, 3)] [(1, 3)] _ ((a4.below k4c).below (by go_grown)) (span_at wc 1 3)).mono ?_
  rintro e wd ⟨rfl, hbd⟩
  have hbd' : Below wc.heap.size wc wd := bvia (by go_grown) hbd
  go_wp2_with fail
  refine (Ma.sameInts_any _ _ _ _ [2, 5, 5] [2, 5, 5] _ (SlAt.below RInt.mono a6 (bvia k7c (bvia hbd' (by go_grown)))) (ints_at wd 2 5 5)).mono ?_
  rintro e we ⟨rfl, hbe⟩
  go_wp2
  go_ret
  exact ⟨rfl, bvia (bvia (bvia (bvia (bvia (bvia hb1 hb2) hbB) (bvia hb3 hb4)) k4c) hbd') (bvia (by go_grown) hbe)⟩

end Go.Proofs.Ytgopdnlmiloipad.Bk
