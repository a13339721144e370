/- Walks of checkLegs, checkBands, fare.Check, checkPrice. -/
import Derived.Test.YtagjlckmemmflacFarB
import Derived.Deep.OwnRows
namespace Go.Proofs.Ytagjlckmemmflac
open Go.RowKit
set_option linter.unusedSimpArgs false
set_option linter.unusedVariables false

/-- A function value stored into a new variable. -/
theorem store_func (W : World) (b : Nat) (hb : W.heap.size = b) : (store ⟨b, 0, none⟩ (.func (.func 54) #[] #[])).run Try.prog (W.alloc (.cells #[.nilFunc] 65)) = .ok () (W.alloc (.cells #[.func (.func 54) #[] #[]] 65)) := by
  subst hb
  have hv : (Value.func (.func 54) #[] #[]).oneCell' = true := rfl
  simp [run_store _ _ _ _ _ hv]
  rw [World.setCell_alloc_at (hn := rfl)]
  simp
theorem cell_func (W : World) : (W.alloc (.cells #[.func (.func 54) #[] #[]] 65)).cell? ⟨W.heap.size, 0, none⟩ = some (.func (.func 54) #[] #[]) := by
  have h := _root_.Go.heap_alloc_new W (.cells #[.func (.func 54) #[] #[]] 65)
  simp only [World.cell?, h]
  rfl

set_option maxHeartbeats 1000000 in
theorem checkLegs_any (ao : Option Addr) (cap : Nat) (L : List (List Int)) (c n : Int) (w : World) (hl : RowsAt w ao cap L) :
    Calls Try.prog 39 #[.slice ao L.length cap, .int .i64 c, .int .i64 n] w fun e w' => e = .returned (.int .i64 (P.legsE L c n)) ∧ Below w.heap.size w w' := by
  have hle := hl.le
  have hmx := hl.max
  unfold maxLen at hmx
  have H1 : ∀ W : World, RowsAt W ao cap L → W.cell? ⟨w.heap.size, 0, none⟩ = some (.int .i64 n) →
      Calls Try.prog 52 #[.slice ao L.length cap, .func (.func 53) #[] #[.pointer (some ⟨w.heap.size, 0, none⟩)]] W fun e w' => e = .returned (.bool (L.any (fun r => decide ((r.length : Int) ≠ n)))) ∧ Below W.heap.size W w' := fun W hW h0 =>
    containsRows_any ao cap L 53 _ _ W hW (fun args wx => by go_simp) (fun r ro rc wx hr hb => by rw [arr2]; exact legs1_any ro rc r n _ wx hr (cellIn hb h0))
  have H2 : ∀ (W : World) (g : Nat), RowsAt W ao cap L → W.cell? ⟨g, 0, none⟩ = some (.func (.func 54) #[] #[]) →
      Calls Try.prog 52 #[.slice ao L.length cap, .func (.func 55) #[] #[.pointer (some ⟨g, 0, none⟩)]] W fun e w' => e = .returned (.bool (L.any P.badRow)) ∧ Below W.heap.size W w' := fun W g hW h0 =>
    containsRows_any ao cap L 55 _ _ W hW (fun args wx => by go_simp) (fun r ro rc wx hr hb => by rw [arr2]; exact legs3_any ro rc r _ wx hr (cellIn hb h0))
  have hoc := store_func
  have HH1 := (show Hid _ from H1)
  have HH2 := (show Hid _ from H2)
  clear H1 H2
  by_cases h3 : (L.length : Int) = c
  · have h3' : ((L.length : Int) != c) = false := by simpa using h3
    cases h4 : L.any (fun r => decide ((r.length : Int) ≠ n))
    · cases h5 : L.any P.badRow
      · have HE : Aside (P.legsE L c n = 0) := by show _ = _; rw [P.legsE, if_pos h3, h4, h5]; rfl
        clear h3
        go_enter Try.func39, Try.ntmps39
        go_wp2_with fail
        refine (HH1.out _ (SlAt.below RRow.mono hl (by go_grown)) (by simp)).mono ?_
        rintro e w1 ⟨rfl, hb1⟩
        rw [h4]
        have hB1 : Below w.heap.size w w1 := bvia (by go_grown) hb1
        go_wp2_with fail
        refine (HH2.out _ w1.heap.size (SlAt.below RRow.mono hl (bvia hB1 (by go_grown))) (cell_func _)).mono ?_
        rintro e w2 ⟨rfl, hb2⟩
        rw [h5]
        go_wp2
        go_ret
        exact ⟨ret_int HE.out.symm, bvia (bvia hB1 (by go_grown)) hb2⟩
      · have HE : Aside (P.legsE L c n = 3) := by show _ = _; rw [P.legsE, if_pos h3, h4, h5]; rfl
        clear h3
        go_enter Try.func39, Try.ntmps39
        go_wp2_with fail
        refine (HH1.out _ (SlAt.below RRow.mono hl (by go_grown)) (by simp)).mono ?_
        rintro e w1 ⟨rfl, hb1⟩
        rw [h4]
        have hB1 : Below w.heap.size w w1 := bvia (by go_grown) hb1
        go_wp2_with fail
        refine (HH2.out _ w1.heap.size (SlAt.below RRow.mono hl (bvia hB1 (by go_grown))) (cell_func _)).mono ?_
        rintro e w2 ⟨rfl, hb2⟩
        rw [h5]
        go_wp2
        go_ret
        exact ⟨ret_int HE.out.symm, bvia (bvia hB1 (by go_grown)) hb2⟩
    · have HE : Aside (P.legsE L c n = 1) := by show _ = _; rw [P.legsE, if_pos h3, h4]; rfl
      clear h3
      go_enter Try.func39, Try.ntmps39
      go_wp2_with fail
      refine (HH1.out _ (SlAt.below RRow.mono hl (by go_grown)) (by simp)).mono ?_
      rintro e w1 ⟨rfl, hb1⟩
      rw [h4]
      go_wp2
      go_ret
      exact ⟨ret_int HE.out.symm, bvia (by go_grown) hb1⟩
  · have h3' : ((L.length : Int) != c) = true := by simpa using h3
    have HE : Aside (P.legsE L c n = 1) := by show _ = _; rw [P.legsE, if_neg h3]
    go_enter Try.func39, Try.ntmps39
    go_wp2
    go_ret
    exact ⟨ret_int HE.out.symm, by go_grown⟩

/-- E1 of bands, behind one of so many days, of such a part. -/
def P.bands : Int → Int → List (Int × Int) → Int
  | _, _, [] => 0
  | d, p, x :: r => if P.btw x.1 0 999 = true ∧ P.btw x.2 0 100 = true then (if x.1 ≤ d ∨ p < x.2 then 4 else P.bands x.1 x.2 r) else 3
def P.bandsE (B : List (Int × Int)) : Int := if B.length ≤ 4 then P.bands (-1) 100 B else 2

/-- A pair in a block of its own. -/
def Two (w : World) (g : Nat) (d p : Int) : Prop := w.rowIs g 61 2 (fun i => if i = 0 then .int .i64 d else .int .i64 p)
theorem Two.new (w : World) (d p : Int) : Two (w.alloc (.cells #[.int .i64 d, .int .i64 p] 61)) w.heap.size d p :=
  ⟨#[.int .i64 d, .int .i64 p], by simpa using heap_alloc_new w (.cells #[.int .i64 d, .int .i64 p] 61), rfl, fun i hi => by match i, hi with | 0, _ => rfl | 1, _ => rfl⟩
theorem Two.alloc {w : World} {g : Nat} {d p : Int} (h : Two w g d p) (o : Obj) : Two (w.alloc o) g d p := by
  have hl := World.rowIs.lt h
  obtain ⟨c, h1, h2, h3⟩ := h
  exact ⟨c, (Below.heap_alloc w o g hl).trans h1, h2, h3⟩
theorem Two.put {w : World} {g : Nat} {d p : Int} (h : Two w g d p) (x y : Int) : Two ((w.setCell ⟨g, 0, none⟩ (.int .i64 x)).setCell ⟨g, 1, none⟩ (.int .i64 y)) g x y :=
  World.rowIs.congr (World.rowIs.set (World.rowIs.set h 0 (.int .i64 x)) 1 (.int .i64 y)) (fun i hi => by match i, hi with | 0, _ => rfl | 1, _ => rfl)

set_option maxHeartbeats 2000000 in
theorem checkBands_any (ao : Option Addr) (cap : Nat) (B : List (Int × Int)) (w : World) (hl : PairsAt w ao cap B) :
    Calls Try.prog 41 #[.slice ao B.length cap] w fun e w' => e = .returned (.int .i64 (P.bandsE B)) ∧ Below w.heap.size w w' := by
  have hle := hl.le
  have hmx := hl.max
  unfold maxLen at hmx
  by_cases h4 : 4 < B.length
  · have HE : Aside (P.bandsE B = 2) := by show _ = _; rw [P.bandsE, if_neg (by omega)]
    have h4' : (4 : Int) < B.length := by omega
    go_enter Try.func41, Try.ntmps41
    go_wp2
    go_ret
    exact ⟨ret_int HE.out.symm, Below.refl _ _⟩
  · have HE : Aside (P.bandsE B = P.bands (-1) 100 B) := by show _ = _; rw [P.bandsE, if_pos (by omega)]
    have h4' : ¬ (4 : Int) < B.length := by omega
    go_enter Try.func41, Try.ntmps41
    go_wp2
    go_loopg [12] B.length (fun g i wr => ∃ (k : Nat) (d p : Int), k ≤ B.length ∧ g = B.length - k ∧ i = .int .i64 k ∧ P.bands d p (B.drop k) = P.bandsE B ∧ Two wr w.heap.size d p ∧ Below w.heap.size w wr)
    case atStart => exact ⟨0, -1, 100, Nat.zero_le _, rfl, rfl, HE.out.symm, Two.new w _ _, by go_grown⟩
    case round =>
      obtain ⟨k, d, p, hk, rfl, rfl, hP, hT, hB⟩ := hrel
      have HP : Aside (P.bands d p (B.drop k) = P.bandsE B) := hP
      have HT : Aside (Two wr w.heap.size d p) := hT
      have hTl := World.rowIs.lt hT
      have t0 : wr.cell? ⟨w.heap.size, 0, none⟩ = some (.int .i64 d) := World.rowIs.cell hT (i := 0) (by omega)
      have t1 : wr.cell? ⟨w.heap.size, 1, none⟩ = some (.int .i64 p) := World.rowIs.cell hT (i := 1) (by omega)
      have f0 := World.rowIs.frozen hT 0
      have f1 := World.rowIs.frozen hT 1
      clear hP hT HE
      by_cases hlt : k < B.length
      · obtain ⟨b, off, x, y, rfl, hbw, hd, hc0, hc1⟩ := PairsAt.get hl hB k hlt
        rw [hd] at HP
        unfold P.bands at HP
        clear hd
        cases h1 : P.btw x 0 999 <;> cases h2 : P.btw y 0 100
        all_goals simp only [h1, h2, Bool.false_eq_true, false_and, and_false, and_self, if_true, if_false, true_and] at HP
        · go_wp2_with (first
            | (go_at_call 29; refine (within_any _ _ _ _).mono ?_; rintro e w1 ⟨rfl, rfl⟩; rw [h1])
            | (go_at_call 40; refine (isPart_any _ _).mono ?_; rintro e w1 ⟨rfl, rfl⟩; rw [h2]))
          go_ret
          exact ⟨ret_int HP.out, bvia hB (by go_grown)⟩
        · go_wp2_with (first
            | (go_at_call 29; refine (within_any _ _ _ _).mono ?_; rintro e w1 ⟨rfl, rfl⟩; rw [h1])
            | (go_at_call 40; refine (isPart_any _ _).mono ?_; rintro e w1 ⟨rfl, rfl⟩; rw [h2]))
          go_ret
          exact ⟨ret_int HP.out, bvia hB (by go_grown)⟩
        · go_wp2_with (first
            | (go_at_call 29; refine (within_any _ _ _ _).mono ?_; rintro e w1 ⟨rfl, rfl⟩; rw [h1])
            | (go_at_call 40; refine (isPart_any _ _).mono ?_; rintro e w1 ⟨rfl, rfl⟩; rw [h2]))
          go_ret
          exact ⟨ret_int HP.out, bvia hB (by go_grown)⟩
        · by_cases h3 : x ≤ d
          · rw [if_pos (.inl h3)] at HP
            go_wp2_with (first
              | (go_at_call 29; refine (within_any _ _ _ _).mono ?_; rintro e w1 ⟨rfl, rfl⟩; rw [h1])
              | (go_at_call 40; refine (isPart_any _ _).mono ?_; rintro e w1 ⟨rfl, rfl⟩; rw [h2]))
            go_ret
            exact ⟨ret_int HP.out, bvia hB (by go_grown)⟩
          · by_cases h5 : p < y
            · rw [if_pos (.inr h5)] at HP
              go_wp2_with (first
                | (go_at_call 29; refine (within_any _ _ _ _).mono ?_; rintro e w1 ⟨rfl, rfl⟩; rw [h1])
                | (go_at_call 40; refine (isPart_any _ _).mono ?_; rintro e w1 ⟨rfl, rfl⟩; rw [h2]))
              go_ret
              exact ⟨ret_int HP.out, bvia hB (by go_grown)⟩
            · rw [if_neg (by omega)] at HP
              go_wp2_with (first
                | (go_at_call 29; refine (within_any _ _ _ _).mono ?_; rintro e w1 ⟨rfl, rfl⟩; rw [h1])
                | (go_at_call 40; refine (isPart_any _ _).mono ?_; rintro e w1 ⟨rfl, rfl⟩; rw [h2]))
              go_roundg (B.length - (k + 1))
              case measure => omega
              case rel => exact ⟨k + 1, x, y, by omega, rfl, by go_num, HP.out, Two.alloc (Two.put HT.out x y) _, Below.alloc ((hB.setCell (p := ⟨w.heap.size, 0, none⟩) (Nat.le_refl _) _).setCell (p := ⟨w.heap.size, 1, none⟩) (Nat.le_refl _) _) (by simp; omega) _⟩
      · obtain rfl : k = B.length := by omega
        rw [List.drop_of_length_le (Nat.le_refl _), P.bands] at HP
        go_wp2
        go_ret
        exact ⟨ret_int HP.out, hB⟩

end Go.Proofs.Ytagjlckmemmflac
