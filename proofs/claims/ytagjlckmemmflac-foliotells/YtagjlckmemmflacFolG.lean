/- Walk of Cancel. -/
import Derived.Test.YtagjlckmemmflacFolF
namespace Go.Proofs.Ytagjlckmemmflac
open Go.RowKit
set_option linter.unusedSimpArgs false
set_option linter.unusedVariables false

theorem OwnC.weaken {α : Type} {cells : α → List Value} {size : Nat} {e : TypeId} {w : World} {b b' : Nat} {v : Value} {l : List α} (h : OwnC cells size e w b v l) (hb : b' ≤ b) : OwnC cells size e w b' v l := by
  refine ⟨h.1, h.2.imp id ?_⟩
  rintro ⟨g, c, cur, h1, h2, h3⟩
  exact ⟨g, c, cur, h1, by omega, h3⟩

theorem cancel1_calls : ∀ (args : Array Value) (wx : World), (callFunc 45 args).run Try.prog wx = .ok (.enter 45 args) wx := enters_of Try.func45 (by kernel_rfl) rfl

theorem sum_every (ao : Option Addr) (cap : Nat) (l : List Ent) (w : World) (hl : EntsAt w ao cap l) (he : P.folE l = 0) :
    Calls Try.prog 42 #[.slice ao l.length cap, .func (.func 43) #[] #[]] w fun e w' => e = .returned (.int .i64 (P.ftot P.all l)) ∧ Below w.heap.size w w' := by
  have := folioSum_any ao cap l 43 P.all w every_calls every_any hl (folE_len he) (folE_amt he)
  rw [← sumL_ftot]
  exact this
theorem sum_fares (ao : Option Addr) (cap : Nat) (l : List Ent) (w : World) (hl : EntsAt w ao cap l) (he : P.folE l = 0) :
    Calls Try.prog 42 #[.slice ao l.length cap, .func (.func 45) #[] #[]] w fun e w' => e = .returned (.int .i64 (P.ftot P.isFare l)) ∧ Below w.heap.size w w' := by
  have := folioSum_any ao cap l 45 P.isFare w cancel1_calls cancel1_any hl (folE_len he) (folE_amt he)
  rw [← sumL_ftot]
  exact this

/-- Three entries in a block of their own. -/
theorem ents_three {w : World} {b : Nat} (x y z : Ent) (hb : w.heap[b]? = some (.cells #[.int .i64 x.1, .int .i64 x.2.1, .int .i64 x.2.2, .int .i64 y.1, .int .i64 y.2.1, .int .i64 y.2.2, .int .i64 z.1, .int .i64 z.2.1, .int .i64 z.2.2] 44 (0, 0))) : EntsAt w (some ⟨b, 0, none⟩) 3 [x, y, z] :=
  SlAt.ofBlock (l := [x, y, z]) [cellsN x, cellsN y, cellsN z] hb rfl rfl (fun i hi => by
    match i, hi with
    | 0, _ => exact ⟨_, rfl, rfl⟩
    | 1, _ => exact ⟨_, rfl, rfl⟩
    | 2, _ => exact ⟨_, rfl, rfl⟩
    | n + 3, h => exact absurd h (by simp)) (by simp [cellsN]) (by simp [maxLen])

/-- What comes behind all at Cancel. -/
def P.come (l : List Ent) (day pen : Int) : List Ent :=
  P.worth [(day, 4, -P.ftot P.isFare l), (day, 3, pen), (day, 4, max 0 (-(P.ftot P.all l - P.ftot P.isFare l + pen)))]
def P.canE (l : List Ent) (day pen : Int) : Int := if P.folE l = 0 then (if pen < 0 ∨ 100000000 < pen then 3 else P.folE (l ++ P.come l day pen)) else P.folE l
def P.can (l : List Ent) (day pen : Int) : List Ent := if P.folE l = 0 then (if pen < 0 ∨ 100000000 < pen then [] else P.plus l (P.come l day pen)) else []
theorem come_len (l : List Ent) (day pen : Int) : (P.come l day pen).length ≤ 3 := by
  have := List.length_filter_le (fun x : Ent => x.2.2 != 0) [(day, 4, -P.ftot P.isFare l), (day, 3, pen), (day, 4, max 0 (-(P.ftot P.all l - P.ftot P.isFare l + pen)))]
  simpa [P.come, P.worth] using this

set_option maxHeartbeats 4000000 in
theorem cancel_any (ao : Option Addr) (cap : Nat) (l : List Ent) (day pen : Int) (w : World) (hl : EntsAt w ao cap l) :
    Calls Try.prog 21 #[.slice ao l.length cap, .int .i64 day, .int .i64 pen] w fun e w' => ∃ v, e = .returned (.tuple #[v, .int .i64 (P.canE l day pen)]) ∧ OwnN w' w.heap.size v (P.can l day pen) ∧ Below w.heap.size w w' := by
  by_cases he : P.folE l = 0
  rotate_left
  · have he2 : (P.folE l == 0) = false := by simpa using he
    have HE : Aside (P.canE l day pen = P.folE l) := by show _ = _; rw [P.canE, if_neg he]
    have HV : Aside (P.can l day pen = []) := by show _ = _; rw [P.can, if_neg he]
    go_enter Try.func21, Try.ntmps21
    go_wp2_with fail
    refine (folCheck_any ao cap l _ hl).mono ?_
    rintro e w1 ⟨rfl, hb1⟩
    go_wp2
    go_ret2
    exact ⟨_, ret2_int HE.out.symm, by rw [HV.out]; exact OwnC.nil _ _, hb1⟩
  by_cases hp : pen < 0 ∨ 100000000 < pen
  · have HE : Aside (P.canE l day pen = 3) := by show _ = _; rw [P.canE, if_pos he, if_pos hp]
    have HV : Aside (P.can l day pen = []) := by show _ = _; rw [P.can, if_pos he, if_pos hp]
    by_cases hp0 : pen < 0
    · clear hp
      go_enter Try.func21, Try.ntmps21
      go_wp2_with fail
      refine (folCheck_any ao cap l _ hl).mono ?_
      rintro e w1 ⟨rfl, hb1⟩
      rw [he]
      go_wp2
      go_ret2
      exact ⟨_, ret2_int HE.out.symm, by rw [HV.out]; exact OwnC.nil _ _, hb1⟩
    · have hp1 : 100000000 < pen := hp.resolve_left hp0
      clear hp
      go_enter Try.func21, Try.ntmps21
      go_wp2_with fail
      refine (folCheck_any ao cap l _ hl).mono ?_
      rintro e w1 ⟨rfl, hb1⟩
      rw [he]
      go_wp2
      go_ret2
      exact ⟨_, ret2_int HE.out.symm, by rw [HV.out]; exact OwnC.nil _ _, hb1⟩
  have HE : Aside (P.canE l day pen = P.folE (l ++ P.come l day pen)) := by show _ = _; rw [P.canE, if_pos he, if_neg hp]
  have HV : Aside (P.can l day pen = P.plus l (P.come l day pen)) := by show _ = _; rw [P.can, if_pos he, if_neg hp]
  have hp0 : ¬ pen < 0 := fun h => hp (.inl h)
  have hp1 : ¬ 100000000 < pen := fun h => hp (.inr h)
  clear hp
  have HC : Aside (P.worth [(day, 4, -P.ftot P.isFare l), (day, 3, pen), (day, 4, max 0 (-(P.ftot P.all l - P.ftot P.isFare l + pen)))] = P.come l day pen) := rfl
  have HC3 := come_len l day pen
  have h12 := folE_len he
  have hf := ftot_12 P.isFare (folE_amt he) h12
  have ht := ftot_12 P.all (folE_amt he) h12
  have HF : Aside (∀ wx, EntsAt wx ao cap l → _) := fun wx hx => sum_fares ao cap l wx hx he
  have HT : Aside (∀ wx, EntsAt wx ao cap l → _) := fun wx hx => sum_every ao cap l wx hx he
  generalize P.ftot P.isFare l = F at HC HF hf
  generalize P.ftot P.all l = T at HC HT ht
  generalize P.come l day pen = C at HE HV HC HC3
  have HC' : Aside ((T - F + pen < 0 → P.worth [(day, 4, -F), (day, 3, pen), (day, 4, -(T - F + pen))] = C) ∧ (¬ T - F + pen < 0 → P.worth [(day, 4, -F), (day, 3, pen), (day, 4, 0)] = C)) := by
    refine ⟨fun h => ?_, fun h => ?_⟩
    · rw [← HC.out, show max 0 (-(T - F + pen)) = -(T - F + pen) by omega]
    · rw [← HC.out, show max 0 (-(T - F + pen)) = 0 by omega]
  clear HC
  go_enter Try.func21, Try.ntmps21
  go_wp2_with fail
  refine (folCheck_any ao cap l _ hl).mono ?_
  rintro e w1 ⟨rfl, hb1⟩
  rw [he]
  go_wp2_with fail
  refine (HF.out _ (SlAt.below REnt.mono hl hb1)).mono ?_
  rintro e w2 ⟨rfl, hb2⟩
  have hB2 := bvia hb1 hb2
  clear hb1 hb2
  go_wp2_with fail
  refine (HT.out _ (SlAt.below REnt.mono hl hB2)).mono ?_
  rintro e w3 ⟨rfl, hb3⟩
  have hB3 := bvia hB2 hb3
  clear hb3 hB2
  have hs3 := hB3.size
  by_cases hm : T - F + pen < 0
  all_goals
    go_wp2_with fail
    all_goals first
      | (exfalso; omega)
      | (refine (worth_any _ 3 [(day, 4, -F), (day, 3, pen), (day, 4, _)] _ (ents_three (day, 4, -F) (day, 3, pen) (day, 4, _) (heap_alloc_new _ _)) (by simp)).mono ?_
         rintro e w4 ⟨v4, rfl, hown4, hb4⟩
         first | rw [HC'.out.1 hm] at hown4 | rw [HC'.out.2 hm] at hown4
         obtain ⟨co, cc, rfl, hc4⟩ := hown4.at
         have hB4 : Below w.heap.size w w4 := bvia (bvia hB3 (by go_grown)) hb4
         clear hb4 hown4
         have hs4 := hB4.size
         go_wp2_with fail
         refine (with_any' ao cap l co cc C _ (SlAt.below REnt.mono hl hB4) hc4 h12 (by omega)).mono ?_
         rintro e w5 ⟨v5, rfl, hown5, hb5⟩
         have HO : Aside (OwnN w5 w.heap.size v5 (P.plus l C)) := OwnC.weaken hown5 hs4
         clear hown5
         go_wp2
         go_ret2
         exact ⟨_, ret2_int HE.out.symm, by rw [HV.out]; exact HO.out, bvia hB4 hb5⟩)

end Go.Proofs.Ytagjlckmemmflac
