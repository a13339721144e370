/- Walks of sheet, folioBegun; the walk of FolioPaid. -/
import Derived.Test.YtagjlckmemmflacFolG
namespace Go.Proofs.Ytagjlckmemmflac
open Go.RowKit
set_option linter.unusedSimpArgs false
set_option linter.unusedVariables false

def T.S : List Ent := [(1, 1, 1000), (3, 2, -400)]
def T.C : List Ent := [(1, 1, 1000), (3, 2, -400), (5, 4, -1000), (5, 3, 100), (5, 4, 300)]
def T.A : List Ent := [(1, 1, 1000), (3, 2, -400), (3, 2, -600)]

set_option maxHeartbeats 400000 in
theorem sheet_any (w : World) :
    Calls Try.prog 47 #[] w fun e w' => ∃ b, e = .returned (.slice (some ⟨b, 0, none⟩) 2 2) ∧ EntsAt w' (some ⟨b, 0, none⟩) 2 T.S ∧ Below w.heap.size w w' := by
  go_enter Try.func47, Try.ntmps47
  go_wp2
  go_ret
  refine ⟨_, rfl, ?_, by go_grown⟩
  exact SlAt.ofBlock (l := T.S) [cellsN (1, 1, 1000), cellsN (3, 2, -400)] (heap_alloc_new _ _) rfl rfl (fun i hi => by
    match i, hi with
    | 0, _ => exact ⟨_, rfl, rfl⟩
    | 1, _ => exact ⟨_, rfl, rfl⟩
    | n + 2, h => exact absurd h (by simp [T.S])) (by simp [cellsN]) (by simp [maxLen, T.S])

theorem s_ck : P.folE T.S = 0 := by decide +kernel
theorem s_ow : P.owed T.S = 600 := by decide +kernel
theorem s_ad : P.addE T.S (3, 2, -600) = 0 ∧ P.add T.S (3, 2, -600) = T.A := by decide +kernel
theorem s_ca : P.canE T.S 5 100 = 0 ∧ P.can T.S 5 100 = T.C := by decide +kernel
theorem s_co : P.folE T.C = 0 ∧ P.owed T.C = 0 := by decide +kernel

set_option maxHeartbeats 4000000 in
theorem folioBegun_any (w : World) :
    Calls Try.prog 25 #[] w fun e w' => e = .returned (.bool true) ∧ Below w.heap.size w w' := by
  go_enter Try.func25, Try.ntmps25
  go_wp2_with fail
  refine (sheet_any _).mono ?_
  rintro e w1 ⟨b1, rfl, s1, hb1⟩
  go_wp2_with fail
  refine (owed_any _ 2 T.S _ s1).mono ?_
  rintro e w2 ⟨rfl, hb2⟩
  rw [s_ow, s_ck]
  go_wp2_with fail
  refine (sheet_any _).mono ?_
  rintro e w3 ⟨b3, rfl, s3, hb3⟩
  go_wp2_with fail
  refine (add_any _ 2 T.S 3 2 (-600) _ s3).mono ?_
  rintro e w4 ⟨v4, rfl, hown4, hb4⟩
  rw [s_ad.2] at hown4
  obtain ⟨ao4, cap4, rfl, -⟩ : ∃ ao cap, v4 = .slice ao 3 cap ∧ EntsAt w4 ao cap T.A := hown4.at
  clear hown4
  rw [s_ad.1]
  go_wp2_with fail
  refine (sheet_any _).mono ?_
  rintro e w5 ⟨b5, rfl, s5, hb5⟩
  go_wp2_with fail
  refine (cancel_any _ 2 T.S 5 100 _ s5).mono ?_
  rintro e w6 ⟨v6, rfl, hown6, hb6⟩
  rw [s_ca.2] at hown6
  obtain ⟨ao6, cap6, rfl, s6⟩ : ∃ ao cap, v6 = .slice ao 5 cap ∧ EntsAt w6 ao cap T.C := hown6.at
  clear hown6
  rw [s_ca.1]
  have hle6 : 5 ≤ cap6 := s6.le
  have hmx6 := s6.max
  unfold maxLen at hmx6
  go_wp2_with fail
  refine (owed_any _ cap6 T.C _ s6).mono ?_
  rintro e w7 ⟨rfl, hb7⟩
  rw [s_co.1, s_co.2]
  go_wp2_with fail
  refine (sheet_any _).mono ?_
  rintro e w8 ⟨b8, rfl, s8, hb8⟩
  go_wp2_with fail
  refine (folCheck_any _ 2 T.S _ s8).mono ?_
  rintro e w9 ⟨rfl, hb9⟩
  rw [s_ck]
  obtain ⟨b, off, x, y, z, rfl, hlt, hd, e0, e1, e2⟩ := EntsAt.get s6 (bvia hb7 (bvia hb8 hb9)) 4 (by decide)
  obtain ⟨rfl, rfl, rfl⟩ : x = 5 ∧ y = 4 ∧ z = 300 := by
    have := hd
    simp [T.C] at this
    omega
  clear hd
  simp only [Nat.reduceMul] at e0 e1 e2
  go_wp2
  go_ret
  exact ⟨rfl, bvia (bvia (bvia (bvia (bvia (bvia (bvia (bvia hb1 hb2) hb3) hb4) hb5) hb6) hb7) hb8) hb9⟩

theorem plus_pos {l c : List Ent} (h : P.folE (l ++ c) = 0) : P.plus l c = l ++ c := by rw [P.plus, if_pos h]
theorem plus_neg {l c : List Ent} (h : ¬ P.folE (l ++ c) = 0) : P.plus l c = [] := by rw [P.plus, if_neg h]

set_option maxHeartbeats 4000000 in
theorem folioPaid_walk (ao : Option Addr) (cap : Nat) (l : List Ent) (day amount : Int) (w : World) (hl : EntsAt w ao cap l) :
    Calls Try.prog 8 #[.slice ao l.length cap, .int .i64 day, .int .i64 amount] w fun e w' => e = .returned (.bool true) ∧ Below w.heap.size w w' := by
  have hle := hl.le
  have hmx := hl.max
  unfold maxLen at hmx
  by_cases he : P.folE l = 0
  rotate_left
  · have he2 : (P.folE l == 0) = false := by simpa using he
    go_enter Try.func8, Try.ntmps8
    go_wp2_with fail
    refine (owed_any ao cap l _ hl).mono ?_
    rintro e w1 ⟨rfl, hb1⟩
    rw [P.owed, if_neg he]
    go_wp2_with fail
    refine (folioBegun_any _).mono ?_
    rintro e w2 ⟨rfl, hb2⟩
    go_wp2
    go_ret
    exact ⟨rfl, bvia hb1 hb2⟩
  have h12 := folE_len he
  have ht := ftot_12 P.all (folE_amt he) h12
  have HO : Aside (P.owed l = P.ftot P.all l) := by show _ = _; rw [P.owed, if_pos he, sumL_ftot]
  have HT : Aside (∀ c, P.ftot P.all (l ++ c) = P.ftot P.all l + P.ftot P.all c) := ftot_append _ _
  generalize P.ftot P.all l = T at HO HT ht
  by_cases hp : amount < 0 ∨ 100000000 < amount
  · by_cases hp0 : amount < 0
    · clear hp
      go_enter Try.func8, Try.ntmps8
      go_wp2_with fail
      refine (owed_any ao cap l _ hl).mono ?_
      rintro e w1 ⟨rfl, hb1⟩
      rw [HO.out, he]
      go_wp2_with fail
      refine (folioBegun_any _).mono ?_
      rintro e w2 ⟨rfl, hb2⟩
      go_wp2
      go_ret
      exact ⟨rfl, bvia hb1 hb2⟩
    · have hp1 : 100000000 < amount := hp.resolve_left hp0
      clear hp
      go_enter Try.func8, Try.ntmps8
      go_wp2_with fail
      refine (owed_any ao cap l _ hl).mono ?_
      rintro e w1 ⟨rfl, hb1⟩
      rw [HO.out, he]
      go_wp2_with fail
      refine (folioBegun_any _).mono ?_
      rintro e w2 ⟨rfl, hb2⟩
      go_wp2
      go_ret
      exact ⟨rfl, bvia hb1 hb2⟩
  have hp0 : ¬ amount < 0 := fun h => hp (.inl h)
  have hp1 : ¬ 100000000 < amount := fun h => hp (.inr h)
  clear hp
  have HA : Aside (P.addE l (day, 2, -amount) = P.folE (l ++ [(day, 2, -amount)]) ∧ P.add l (day, 2, -amount) = P.plus l [(day, 2, -amount)]) := ⟨by rw [P.addE, if_pos he], by rw [P.add, if_pos he]⟩
  have HL : Aside ((l ++ [(day, 2, -amount)]).length = l.length + 1) := by show _ = _; simp
  have HTT : Aside (P.ftot P.all (l ++ [(day, 2, -amount)]) = T - amount) := by show _ = _; rw [HT.out]; simp [P.ftot]; omega
  obtain ⟨L, hL⟩ : ∃ L, l ++ [((day, 2, -amount) : Ent)] = L := ⟨_, rfl⟩
  rw [hL] at HL HTT
  by_cases hz : P.folE L = 0
  · go_enter Try.func8, Try.ntmps8
    go_wp2_with fail
    refine (owed_any ao cap l _ hl).mono ?_
    rintro e w1 ⟨rfl, hb1⟩
    rw [HO.out, he]
    go_wp2_with fail
    refine (folioBegun_any _).mono ?_
    rintro e w2 ⟨rfl, hb2⟩
    have hB2 := bvia hb1 hb2
    go_wp2_with fail
    refine (add_any ao cap l day 2 (-amount) _ (SlAt.below REnt.mono hl hB2)).mono ?_
    rintro e w3 ⟨v3, rfl, hown3, hb3⟩
    rw [HA.out.1, hL, hz]
    rw [HA.out.2, plus_pos (by rw [hL]; exact hz), hL] at hown3
    clear hL
    obtain ⟨ao3, cap3, rfl, s3⟩ := hown3.at
    clear hown3
    have hle3 := s3.le
    have hmx3 := s3.max
    unfold maxLen at hmx3
    go_wp2_with fail
    refine (owed_any _ _ L _ s3).mono ?_
    rintro e w4 ⟨rfl, hb4⟩
    rw [P.owed, if_pos hz, sumL_ftot, HTT.out, hz, HL.out]
    go_wp2
    go_ret
    exact ⟨ret_bool (by simp), bvia (bvia hB2 hb3) hb4⟩
  · have hz2 : (P.folE L == 0) = false := by simpa using hz
    go_enter Try.func8, Try.ntmps8
    go_wp2_with fail
    refine (owed_any ao cap l _ hl).mono ?_
    rintro e w1 ⟨rfl, hb1⟩
    rw [HO.out, he]
    go_wp2_with fail
    refine (folioBegun_any _).mono ?_
    rintro e w2 ⟨rfl, hb2⟩
    have hB2 := bvia hb1 hb2
    go_wp2_with fail
    refine (add_any ao cap l day 2 (-amount) _ (SlAt.below REnt.mono hl hB2)).mono ?_
    rintro e w3 ⟨v3, rfl, hown3, hb3⟩
    rw [HA.out.1, hL]
    rw [HA.out.2, plus_neg (by rw [hL]; exact hz)] at hown3
    clear hL
    obtain ⟨ao3, cap3, rfl, -⟩ : ∃ ao cap, v3 = .slice ao 0 cap ∧ EntsAt w3 ao cap [] := hown3.at
    clear hown3
    go_wp2
    go_ret
    exact ⟨rfl, bvia hB2 hb3⟩

end Go.Proofs.Ytagjlckmemmflac
