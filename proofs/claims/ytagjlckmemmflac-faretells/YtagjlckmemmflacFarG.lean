/- Walks of table, fareBegun. -/
import Derived.Test.YtagjlckmemmflacFarF
namespace Go.Proofs.Ytagjlckmemmflac
open Go.RowKit
set_option linter.unusedSimpArgs false
set_option linter.unusedVariables false

def T.L : List (List Int) := [[100, 200, 301], [150, 250, 350], [500, 500, 500]]
def T.B : List (Int × Int) := [(7, 100), (30, 50)]
abbrev tableObjs (n : Nat) : List Obj := [
  .cells #[.slice (some ⟨n + 1 + 1 + 1 + 1, 0, none⟩) 3 3, .int .i64 50, .int .i64 33, .slice (some ⟨n + 1 + 1 + 1 + 1 + 1, 0, none⟩) 2 2, .int .i64 20] 25,
  .cells #[.int .i64 100, .int .i64 200, .int .i64 301] 3, .cells #[.int .i64 150, .int .i64 250, .int .i64 350] 3, .cells #[.int .i64 500, .int .i64 500, .int .i64 500] 3,
  .cells #[.slice (some ⟨n + 1, 0, none⟩) 3 3, .slice (some ⟨n + 1 + 1, 0, none⟩) 3 3, .slice (some ⟨n + 1 + 1 + 1, 0, none⟩) 3 3] 57,
  .cells #[.int .i64 7, .int .i64 100, .int .i64 30, .int .i64 50] 61]

theorem ints3 {w : World} {b : Nat} {a x c : Int} (h : w.heap[b]? = some (.cells #[.int .i64 a, .int .i64 x, .int .i64 c] 3)) : IntsAt w (some ⟨b, 0, none⟩) 3 [a, x, c] :=
  SlAt.ofBlock [[.int .i64 a], [.int .i64 x], [.int .i64 c]] (l := [a, x, c]) h rfl rfl (fun i hi => by have hi : i < 3 := hi; match i, hi with | 0, _ => exact ⟨_, rfl, rfl⟩ | 1, _ => exact ⟨_, rfl, rfl⟩ | 2, _ => exact ⟨_, rfl, rfl⟩) (by simp) (by simp [maxLen])

set_option maxHeartbeats 1000000 in
theorem table_any (w : World) :
    Calls Try.prog 38 #[] w fun e w' => ∃ lo bo, e = .returned (V.fare lo bo 3 2 T.L 50 33 T.B 20) ∧ FareAt w' lo bo 3 2 T.L T.B ∧ Below w.heap.size w w' := by
  go_enter Try.func38, Try.ntmps38
  go_wp2
  refine bodyPost_ret (v := V.fare (some ⟨w.heap.size + 1 + 1 + 1 + 1, 0, none⟩) (some ⟨w.heap.size + 1 + 1 + 1 + 1 + 1, 0, none⟩) 3 2 T.L 50 33 T.B 20) (by simp [results, Try.results38, go_sem, V.fare, T.L, T.B]) rfl ⟨_, _, rfl, ⟨?_, ?_⟩, by go_grown⟩
  · have hf := heap_fold (tableObjs w.heap.size) w
    exact SlAt.ofBlock [[.slice (some ⟨w.heap.size + 1, 0, none⟩) 3 3], [.slice (some ⟨w.heap.size + 1 + 1, 0, none⟩) 3 3], [.slice (some ⟨w.heap.size + 1 + 1 + 1, 0, none⟩) 3 3]]
      (l := T.L) (hf 4) rfl rfl (fun i hi => by
        have hi : i < 3 := hi
        match i, hi with
        | 0, _ => exact ⟨_, rfl, _, _, rfl, ints3 (hf 1)⟩
        | 1, _ => exact ⟨_, rfl, _, _, rfl, ints3 (hf 2)⟩
        | 2, _ => exact ⟨_, rfl, _, _, rfl, ints3 (hf 3)⟩) (by simp) (by decide)
  · have hf := heap_fold (tableObjs w.heap.size) w
    exact SlAt.ofBlock [[.int .i64 7, .int .i64 100], [.int .i64 30, .int .i64 50]]
      (l := T.B) (hf 5) rfl rfl (fun i hi => by
        have hi : i < 2 := hi
        match i, hi with
        | 0, _ => exact ⟨_, rfl, rfl⟩
        | 1, _ => exact ⟨_, rfl, rfl⟩) (by simp) (by decide)

theorem t_p1 : P.price T.L 50 33 T.B 20 3 3 0 1 3 1 = 752 ∧ P.priceE T.L 50 33 T.B 20 3 3 0 1 3 1 = 0 := by decide +kernel
theorem t_p4 : P.price T.L 50 33 T.B 20 3 3 0 1 3 4 = 1332 ∧ P.priceE T.L 50 33 T.B 20 3 3 0 1 3 4 = 0 := by decide +kernel
theorem t_dn : P.down T.L 50 33 T.B 20 3 3 1003 = 201 ∧ P.fareP T.L 50 33 T.B 20 3 3 1003 = 0 := by decide +kernel
theorem t_pn : P.pen T.L 50 33 T.B 20 3 3 1001 8 = 501 ∧ P.penE T.L 50 33 T.B 20 3 3 1001 8 = 0 := by decide +kernel
theorem t_ck : P.fareE T.L 50 33 T.B 20 3 3 = 0 := by decide +kernel

set_option maxHeartbeats 2000000 in
theorem fareBegun_any (w : World) :
    Calls Try.prog 17 #[] w fun e w' => e = .returned (.bool true) ∧ Below w.heap.size w w' := by
  go_enter Try.func17, Try.ntmps17
  go_wp2_with fail
  refine (table_any _).mono ?_
  rintro e w1 ⟨c1, b1, rfl, s1, hb1⟩
  go_wp2_with fail
  refine (price_any _ _ 3 2 T.L 50 33 T.B 20 3 3 0 1 3 1 _ s1).mono ?_
  rintro e w2 ⟨rfl, hb2⟩
  rw [t_p1.1, t_p1.2]
  go_wp2_with fail
  refine (table_any _).mono ?_
  rintro e w3 ⟨c3, b3, rfl, s3, hb3⟩
  go_wp2_with fail
  refine (price_any _ _ 3 2 T.L 50 33 T.B 20 3 3 0 1 3 4 _ s3).mono ?_
  rintro e w4 ⟨rfl, hb4⟩
  rw [t_p4.1, t_p4.2]
  go_wp2_with fail
  refine (table_any _).mono ?_
  rintro e w5 ⟨c5, b5, rfl, s5, hb5⟩
  go_wp2_with fail
  refine (down_any _ _ 3 2 T.L 50 33 T.B 20 3 3 1003 _ s5).mono ?_
  rintro e w6 ⟨rfl, hb6⟩
  rw [t_dn.1, t_dn.2]
  go_wp2_with fail
  refine (table_any _).mono ?_
  rintro e w7 ⟨c7, b7, rfl, s7, hb7⟩
  go_wp2_with fail
  refine (penalty_any _ _ 3 2 T.L 50 33 T.B 20 3 3 1001 8 _ s7).mono ?_
  rintro e w8 ⟨rfl, hb8⟩
  rw [t_pn.1, t_pn.2]
  go_wp2_with fail
  refine (table_any _).mono ?_
  rintro e w9 ⟨c9, b9, rfl, s9, hb9⟩
  go_wp2_with fail
  refine (fareCheck_any _ _ 3 2 T.L 50 33 T.B 20 3 3 _ s9).mono ?_
  rintro e w10 ⟨rfl, hb10⟩
  rw [t_ck]
  go_wp2
  go_ret
  exact ⟨rfl, bvia (bvia (bvia (bvia (bvia (bvia (bvia (bvia (bvia hb1 hb2) hb3) hb4) hb5) hb6) hb7) hb8) hb9) hb10⟩

end Go.Proofs.Ytagjlckmemmflac
