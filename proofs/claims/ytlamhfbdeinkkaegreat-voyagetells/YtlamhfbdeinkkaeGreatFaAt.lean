import Derived.Test.YtlamhfbdeinkkaeGreatFoAt
import Derived.Deep.OwnRows
set_option maxRecDepth 10000
/- Walks of checkLegs, checkBands, fare.Check, checkPrice. -/
namespace Go.Proofs.YtlamhfbdeinkkaeGreat.Fo
open Go.RowKit
set_option linter.unusedSimpArgs false
set_option linter.unusedVariables false

/-- A function value stored into a new variable. -/
theorem store_func (W : World) (b : Nat) (hb : W.heap.size = b) : (store ⟨b, 0, none⟩ (.func (.func 217) #[] #[])).run Tryz.prog (W.alloc (.cells #[.nilFunc] 136)) = .ok () (W.alloc (.cells #[.func (.func 217) #[] #[]] 136)) := by
  subst hb
  have hv : (Value.func (.func 217) #[] #[]).oneCell' = true := rfl
  simp [run_store _ _ _ _ _ hv]
  rw [World.setCell_alloc_at (hn := rfl)]
  simp
theorem cell_func (W : World) : (W.alloc (.cells #[.func (.func 217) #[] #[]] 136)).cell? ⟨W.heap.size, 0, none⟩ = some (.func (.func 217) #[] #[]) := by
  have h := _root_.Go.heap_alloc_new W (.cells #[.func (.func 217) #[] #[]] 136)
  simp only [World.cell?, h]
  rfl

set_option maxHeartbeats 1000000 in
theorem checkLegs_any (ao : Option Addr) (cap : Nat) (L : List (List Int)) (c n : Int) (w : World) (hl : RowsAt w ao cap L) :
    Calls Tryz.prog 169 #[.slice ao L.length cap, .int .i64 c, .int .i64 n] w fun e w' => e = .returned (.int .i64 (P.legsE L c n)) ∧ Below w.heap.size w w' := by
  have hle := hl.le
  have hmx := hl.max
  unfold maxLen at hmx
  have H1 : ∀ W : World, RowsAt W ao cap L → W.cell? ⟨w.heap.size, 0, none⟩ = some (.int .i64 n) →
      Calls Tryz.prog 215 #[.slice ao L.length cap, .func (.func 216) #[] #[.pointer (some ⟨w.heap.size, 0, none⟩)]] W fun e w' => e = .returned (.bool (L.any (fun r => decide ((r.length : Int) ≠ n)))) ∧ Below W.heap.size W w' := fun W hW h0 =>
    containsRows_any ao cap L 216 _ _ W hW (fun args wx => by go_simp) (fun r ro rc wx hr hb => by rw [arr2]; exact legs1_any ro rc r n _ wx hr (cellIn hb h0))
  have H2 : ∀ (W : World) (g : Nat), RowsAt W ao cap L → W.cell? ⟨g, 0, none⟩ = some (.func (.func 217) #[] #[]) →
      Calls Tryz.prog 215 #[.slice ao L.length cap, .func (.func 218) #[] #[.pointer (some ⟨g, 0, none⟩)]] W fun e w' => e = .returned (.bool (L.any P.badRow)) ∧ Below W.heap.size W w' := fun W g hW h0 =>
    containsRows_any ao cap L 218 _ _ W hW (fun args wx => by go_simp) (fun r ro rc wx hr hb => by rw [arr2]; exact legs3_any ro rc r _ wx hr (cellIn hb h0))
  have hoc := store_func
  have HH1 := (show Hid _ from H1)
  have HH2 := (show Hid _ from H2)
  clear H1 H2
  by_cases h3 : (L.length : Int) = c
  · have h3' : ((L.length : Int) != c) = false := by simpa using h3
    cases h4 : L.any (fun r => decide ((r.length : Int) ≠ n))
    · cases h5 : L.any P.badRow
      · have HE : Aside (P.legsE L c n = 0) := by show _ = _; rw [P.legsE, if_pos h3, h4, h5]; rfl
        clear h3
        go_enter Tryz.func169, Tryz.ntmps169
        go_wp2_with fail
        refine (HH1.out _ (SlAt.below RRow.mono hl (by go_grown)) (by simp)).mono ?_
        rintro e w1 ⟨rfl, hb1⟩
        rw [h4]
        have hB1 : Below w.heap.size w w1 := bvia (by go_grown) hb1
        go_wp2_with fail
        refine (HH2.out _ w1.heap.size (SlAt.below RRow.mono hl (bvia hB1 (by go_grown))) (cell_func _)).mono ?_
        rintro e w2 ⟨rfl, hb2⟩
        rw [h5]
        go_wp2
        go_ret
        exact ⟨ret_int HE.out.symm, bvia (bvia hB1 (by go_grown)) hb2⟩
      · have HE : Aside (P.legsE L c n = 3) := by show _ = _; rw [P.legsE, if_pos h3, h4, h5]; rfl
        clear h3
        go_enter Tryz.func169, Tryz.ntmps169
        go_wp2_with fail
        refine (HH1.out _ (SlAt.below RRow.mono hl (by go_grown)) (by simp)).mono ?_
        rintro e w1 ⟨rfl, hb1⟩
        rw [h4]
        have hB1 : Below w.heap.size w w1 := bvia (by go_grown) hb1
        go_wp2_with fail
        refine (HH2.out _ w1.heap.size (SlAt.below RRow.mono hl (bvia hB1 (by go_grown))) (cell_func _)).mono ?_
        rintro e w2 ⟨rfl, hb2⟩
        rw [h5]
        go_wp2
        go_ret
        exact ⟨ret_int HE.out.symm, bvia (bvia hB1 (by go_grown)) hb2⟩
    · have HE : Aside (P.legsE L c n = 1) := by show _ = _; rw [P.legsE, if_pos h3, h4]; rfl
      clear h3
      go_enter Tryz.func169, Tryz.ntmps169
      go_wp2_with fail
      refine (HH1.out _ (SlAt.below RRow.mono hl (by go_grown)) (by simp)).mono ?_
      rintro e w1 ⟨rfl, hb1⟩
      rw [h4]
      go_wp2
      go_ret
      exact ⟨ret_int HE.out.symm, bvia (by go_grown) hb1⟩
  · have h3' : ((L.length : Int) != c) = true := by simpa using h3
    have HE : Aside (P.legsE L c n = 1) := by show _ = _; rw [P.legsE, if_neg h3]
    go_enter Tryz.func169, Tryz.ntmps169
    go_wp2
    go_ret
    exact ⟨ret_int HE.out.symm, by go_grown⟩

/-- E1 of bands, behind one of so many days, of such a part. -/
def P.bands : Int → Int → List (Int × Int) → Int
  | _, _, [] => 0
  | d, p, x :: r => if P.btw x.1 0 999 = true ∧ P.btw x.2 0 100 = true then (if x.1 ≤ d ∨ p < x.2 then 4 else P.bands x.1 x.2 r) else 3
def P.bandsE (B : List (Int × Int)) : Int := if B.length ≤ 4 then P.bands (-1) 100 B else 2

/-- A pair in a block of its own. -/
def Two (w : World) (g : Nat) (d p : Int) : Prop := w.rowIs g 143 2 (fun i => if i = 0 then .int .i64 d else .int .i64 p)
theorem Two.new (w : World) (d p : Int) : Two (w.alloc (.cells #[.int .i64 d, .int .i64 p] 143)) w.heap.size d p :=
  ⟨#[.int .i64 d, .int .i64 p], by simpa using heap_alloc_new w (.cells #[.int .i64 d, .int .i64 p] 143), rfl, fun i hi => by match i, hi with | 0, _ => rfl | 1, _ => rfl⟩
theorem Two.alloc {w : World} {g : Nat} {d p : Int} (h : Two w g d p) (o : Obj) : Two (w.alloc o) g d p := by
  have hl := World.rowIs.lt h
  obtain ⟨c, h1, h2, h3⟩ := h
  exact ⟨c, (Below.heap_alloc w o g hl).trans h1, h2, h3⟩
theorem Two.put {w : World} {g : Nat} {d p : Int} (h : Two w g d p) (x y : Int) : Two ((w.setCell ⟨g, 0, none⟩ (.int .i64 x)).setCell ⟨g, 1, none⟩ (.int .i64 y)) g x y :=
  World.rowIs.congr (World.rowIs.set (World.rowIs.set h 0 (.int .i64 x)) 1 (.int .i64 y)) (fun i hi => by match i, hi with | 0, _ => rfl | 1, _ => rfl)

set_option maxHeartbeats 2000000 in
theorem checkBands_any (ao : Option Addr) (cap : Nat) (B : List (Int × Int)) (w : World) (hl : PairsAt w ao cap B) :
    Calls Tryz.prog 171 #[.slice ao B.length cap] w fun e w' => e = .returned (.int .i64 (P.bandsE B)) ∧ Below w.heap.size w w' := by
  have hle := hl.le
  have hmx := hl.max
  unfold maxLen at hmx
  by_cases h4 : 4 < B.length
  · have HE : Aside (P.bandsE B = 2) := by show _ = _; rw [P.bandsE, if_neg (by omega)]
    have h4' : (4 : Int) < B.length := by omega
    go_enter Tryz.func171, Tryz.ntmps171
    go_wp2
    go_ret
    exact ⟨ret_int HE.out.symm, Below.refl _ _⟩
  · have HE : Aside (P.bandsE B = P.bands (-1) 100 B) := by show _ = _; rw [P.bandsE, if_pos (by omega)]
    have h4' : ¬ (4 : Int) < B.length := by omega
    go_enter Tryz.func171, Tryz.ntmps171
    go_wp2
    go_loopg [12] B.length (fun g i wr => ∃ (k : Nat) (d p : Int), k ≤ B.length ∧ g = B.length - k ∧ i = .int .i64 k ∧ P.bands d p (B.drop k) = P.bandsE B ∧ Two wr w.heap.size d p ∧ Below w.heap.size w wr)
    case atStart => exact ⟨0, -1, 100, Nat.zero_le _, rfl, rfl, HE.out.symm, Two.new w _ _, by go_grown⟩
    case round =>
      obtain ⟨k, d, p, hk, rfl, rfl, hP, hT, hB⟩ := hrel
      have HP : Aside (P.bands d p (B.drop k) = P.bandsE B) := hP
      have HT : Aside (Two wr w.heap.size d p) := hT
      have hTl := World.rowIs.lt hT
      have t0 : wr.cell? ⟨w.heap.size, 0, none⟩ = some (.int .i64 d) := World.rowIs.cell hT (i := 0) (by omega)
      have t1 : wr.cell? ⟨w.heap.size, 1, none⟩ = some (.int .i64 p) := World.rowIs.cell hT (i := 1) (by omega)
      have f0 := World.rowIs.frozen hT 0
      have f1 := World.rowIs.frozen hT 1
      clear hP hT HE
      by_cases hlt : k < B.length
      · obtain ⟨b, off, x, y, rfl, hbw, hd, hc0, hc1⟩ := PairsAt.get hl hB k hlt
        rw [hd] at HP
        unfold P.bands at HP
        clear hd
        cases h1 : P.btw x 0 999 <;> cases h2 : P.btw y 0 100
        all_goals simp only [h1, h2, Bool.false_eq_true, false_and, and_false, and_self, if_true, if_false, true_and] at HP
        · go_wp2_with (first
            | (go_at_call 168; refine (within_any _ _ _ _).mono ?_; rintro e w1 ⟨rfl, rfl⟩; rw [h1])
            | (go_at_call 170; refine (isPart_any _ _).mono ?_; rintro e w1 ⟨rfl, rfl⟩; rw [h2]))
          go_ret
          exact ⟨ret_int HP.out, bvia hB (by go_grown)⟩
        · go_wp2_with (first
            | (go_at_call 168; refine (within_any _ _ _ _).mono ?_; rintro e w1 ⟨rfl, rfl⟩; rw [h1])
            | (go_at_call 170; refine (isPart_any _ _).mono ?_; rintro e w1 ⟨rfl, rfl⟩; rw [h2]))
          go_ret
          exact ⟨ret_int HP.out, bvia hB (by go_grown)⟩
        · go_wp2_with (first
            | (go_at_call 168; refine (within_any _ _ _ _).mono ?_; rintro e w1 ⟨rfl, rfl⟩; rw [h1])
            | (go_at_call 170; refine (isPart_any _ _).mono ?_; rintro e w1 ⟨rfl, rfl⟩; rw [h2]))
          go_ret
          exact ⟨ret_int HP.out, bvia hB (by go_grown)⟩
        · by_cases h3 : x ≤ d
          · rw [if_pos (.inl h3)] at HP
            go_wp2_with (first
              | (go_at_call 168; refine (within_any _ _ _ _).mono ?_; rintro e w1 ⟨rfl, rfl⟩; rw [h1])
              | (go_at_call 170; refine (isPart_any _ _).mono ?_; rintro e w1 ⟨rfl, rfl⟩; rw [h2]))
            go_ret
            exact ⟨ret_int HP.out, bvia hB (by go_grown)⟩
          · by_cases h5 : p < y
            · rw [if_pos (.inr h5)] at HP
              go_wp2_with (first
                | (go_at_call 168; refine (within_any _ _ _ _).mono ?_; rintro e w1 ⟨rfl, rfl⟩; rw [h1])
                | (go_at_call 170; refine (isPart_any _ _).mono ?_; rintro e w1 ⟨rfl, rfl⟩; rw [h2]))
              go_ret
              exact ⟨ret_int HP.out, bvia hB (by go_grown)⟩
            · rw [if_neg (by omega)] at HP
              go_wp2_with (first
                | (go_at_call 168; refine (within_any _ _ _ _).mono ?_; rintro e w1 ⟨rfl, rfl⟩; rw [h1])
                | (go_at_call 170; refine (isPart_any _ _).mono ?_; rintro e w1 ⟨rfl, rfl⟩; rw [h2]))
              go_roundg (B.length - (k + 1))
              case measure => omega
              case rel => exact ⟨k + 1, x, y, by omega, rfl, by go_num, HP.out, Two.alloc (Two.put HT.out x y) _, Below.alloc ((hB.setCell (p := ⟨w.heap.size, 0, none⟩) (Nat.le_refl _) _).setCell (p := ⟨w.heap.size, 1, none⟩) (Nat.le_refl _) _) (by simp; omega) _⟩
      · obtain rfl : k = B.length := by omega
        rw [List.drop_of_length_le (Nat.le_refl _), P.bands] at HP
        go_wp2
        go_ret
        exact ⟨ret_int HP.out, hB⟩

end Go.Proofs.YtlamhfbdeinkkaeGreat.Fo
/- Walks of fare.Check, checkPrice, sum, cost, Down. -/
namespace Go.Proofs.YtlamhfbdeinkkaeGreat.Fo
open Go.RowKit
set_option linter.unusedSimpArgs false
set_option linter.unusedVariables false

/-- E1. -/
def P.fareE (L : List (List Int)) (al th : Int) (B : List (Int × Int)) (dn c n : Int) : Int :=
  if P.btw c 1 5 = true ∧ P.btw n 1 7 = true then (if P.legsE L c n = 0 then (if P.btw al 0 200 = true ∧ P.btw th 0 100 = true ∧ P.btw dn 0 100 = true then P.bandsE B else 3) else P.legsE L c n) else 3

/-- Fares in memory: their two lists. -/
structure FareAt (w : World) (lo bo : Option Addr) (lc bc : Nat) (L : List (List Int)) (B : List (Int × Int)) : Prop where
  legs : RowsAt w lo lc L
  bands : PairsAt w bo bc B
theorem FareAt.below {w w' : World} {lo bo : Option Addr} {lc bc : Nat} {L : List (List Int)} {B : List (Int × Int)} (h : FareAt w lo bo lc bc L B) (hb : Below w.heap.size w w') : FareAt w' lo bo lc bc L B :=
  ⟨SlAt.below RRow.mono h.legs hb, SlAt.below RPair.mono h.bands hb⟩
abbrev V.fare (lo bo : Option Addr) (lc bc : Nat) (L : List (List Int)) (al th : Int) (B : List (Int × Int)) (dn : Int) : Value :=
  .agg #[.slice lo L.length lc, .int .i64 al, .int .i64 th, .slice bo B.length bc, .int .i64 dn]

set_option maxHeartbeats 2000000 in
theorem fareCheck_any (lo bo : Option Addr) (lc bc : Nat) (L : List (List Int)) (al th : Int) (B : List (Int × Int)) (dn c n : Int) (w : World) (hf : FareAt w lo bo lc bc L B) :
    Calls Tryz.prog 105 #[V.fare lo bo lc bc L al th B dn, .int .i64 c, .int .i64 n] w fun e w' => e = .returned (.int .i64 (P.fareE L al th B dn c n)) ∧ Below w.heap.size w w' := by
  cases h1 : P.btw c 1 5 <;> cases h2 : P.btw n 1 7
  · have HE : Aside (P.fareE L al th B dn c n = 3) := by show _ = _; simp [P.fareE, h1, h2]
    go_enter Tryz.func105, Tryz.ntmps105
    go_wp2_with (go_at_call 168; refine (within_any _ _ _ _).mono ?_; rintro e w1 ⟨rfl, rfl⟩; first | rw [h1] | rw [h2])
    go_ret
    exact ⟨ret_int HE.out.symm, by go_grown⟩
  · have HE : Aside (P.fareE L al th B dn c n = 3) := by show _ = _; simp [P.fareE, h1, h2]
    go_enter Tryz.func105, Tryz.ntmps105
    go_wp2_with (go_at_call 168; refine (within_any _ _ _ _).mono ?_; rintro e w1 ⟨rfl, rfl⟩; first | rw [h1] | rw [h2])
    go_ret
    exact ⟨ret_int HE.out.symm, by go_grown⟩
  · have HE : Aside (P.fareE L al th B dn c n = 3) := by show _ = _; simp [P.fareE, h1, h2]
    go_enter Tryz.func105, Tryz.ntmps105
    go_wp2_with (go_at_call 168; refine (within_any _ _ _ _).mono ?_; rintro e w1 ⟨rfl, rfl⟩; first | rw [h1] | rw [h2])
    go_ret
    exact ⟨ret_int HE.out.symm, by go_grown⟩
  · cases hz : (P.legsE L c n != 0)
    · have hz' : P.legsE L c n = 0 := by simpa using hz
      cases h3 : P.btw al 0 200 <;> cases h4 : P.btw th 0 100 <;> cases h5 : P.btw dn 0 100
      all_goals
        have HE : Aside (P.fareE L al th B dn c n = if P.btw al 0 200 = true ∧ P.btw th 0 100 = true ∧ P.btw dn 0 100 = true then P.bandsE B else 3) := by show _ = _; simp [P.fareE, h1, h2, hz']
        simp only [h3, h4, h5, Bool.false_eq_true, false_and, and_false, and_self, if_true, if_false, true_and] at HE
        clear hz'
        go_enter Tryz.func105, Tryz.ntmps105
        go_wp2_with (first
          | (go_at_call 168; refine (within_any _ _ _ _).mono ?_; rintro e w1 ⟨rfl, rfl⟩; first | rw [h1] | rw [h2] | rw [h3])
          | (go_at_call 170; refine (isPart_any _ _).mono ?_; rintro e w1 ⟨rfl, rfl⟩; first | rw [h4] | rw [h5])
          | (go_at_call 169; refine (checkLegs_any _ _ _ _ _ _ (SlAt.below RRow.mono hf.legs (by go_grown))).mono ?_; rintro e w2 ⟨rfl, hb2⟩; have c1 : w2.cell? ⟨w.heap.size, 1, none⟩ = some (.int .i64 al) := cellIn hb2 (by simp); have c2 : w2.cell? ⟨w.heap.size, 2, none⟩ = some (.int .i64 th) := cellIn hb2 (by simp); have c3 : w2.cell? ⟨w.heap.size, 3, none⟩ = some (.slice bo B.length bc) := cellIn hb2 (by simp); have c4 : w2.cell? ⟨w.heap.size, 4, none⟩ = some (.int .i64 dn) := cellIn hb2 (by simp); have hB2 : Below w.heap.size w w2 := bvia (by go_grown) hb2)
          | (go_at_call 171; refine (checkBands_any _ _ _ _ (SlAt.below RPair.mono hf.bands hB2)).mono ?_; rintro e w3 ⟨rfl, hb3⟩))
        go_ret
        first | exact ⟨ret_int HE.out.symm, bvia hB2 hb3⟩ | exact ⟨ret_int HE.out.symm, hB2⟩
    · have HE : Aside (P.fareE L al th B dn c n = P.legsE L c n) := by show _ = _; rw [P.fareE, if_pos ⟨h1, h2⟩, if_neg (by simpa using hz)]
      go_enter Tryz.func105, Tryz.ntmps105
      go_wp2_with (first
        | (go_at_call 168; refine (within_any _ _ _ _).mono ?_; rintro e w1 ⟨rfl, rfl⟩; first | rw [h1] | rw [h2])
        | (go_at_call 169; refine (checkLegs_any _ _ _ _ _ _ (SlAt.below RRow.mono hf.legs (by go_grown))).mono ?_; rintro e w2 ⟨rfl, hb2⟩))
      go_ret
      exact ⟨ret_int HE.out.symm, bvia (by go_grown) hb2⟩

/-- What of fares is right. -/
theorem fareE_zero {L : List (List Int)} {al th : Int} {B : List (Int × Int)} {dn c n : Int} (h : P.fareE L al th B dn c n = 0) :
    (1 ≤ c ∧ c ≤ 5) ∧ (1 ≤ n ∧ n ≤ 7) ∧ (L.length : Int) = c ∧ (∀ r ∈ L, (r.length : Int) = n ∧ ∀ x ∈ r, 0 ≤ x ∧ x ≤ 100000) ∧ (0 ≤ al ∧ al ≤ 200) ∧ (0 ≤ th ∧ th ≤ 100) ∧ (0 ≤ dn ∧ dn ≤ 100) ∧ P.bandsE B = 0 := by
  unfold P.fareE at h
  split at h
  · rename_i h1
    split at h
    · rename_i h2
      split at h
      · rename_i h3
        simp only [P.btw, Bool.and_eq_true, decide_eq_true_eq] at h1 h3
        unfold P.legsE at h2
        split at h2
        · rename_i h4
          split at h2
          · omega
          · rename_i h5
            split at h2
            · omega
            · rename_i h6
              refine ⟨h1.1, h1.2, h4, fun r hr => ⟨?_, fun x hx => ?_⟩, h3.1, h3.2.1, h3.2.2, h⟩
              · have h5' := (Bool.not_eq_true _).mp h5
                rw [List.any_eq_false] at h5'
                have := h5' r hr
                simpa using this
              · have h6' := (Bool.not_eq_true _).mp h6
                rw [List.any_eq_false] at h6'
                have := h6' r hr
                rw [P.badRow, Bool.not_eq_true, List.any_eq_false] at this
                have := this x hx
                simpa [P.btw] using this
        · omega
      · omega
    · omega
  · omega

def P.tot : List Int → Int
  | [] => 0
  | x :: r => x + P.tot r
theorem mul_in {a b m n : Int} (ha : 0 ≤ a ∧ a ≤ m) (hb : 0 ≤ b ∧ b ≤ n) : 0 ≤ a * b ∧ a * b ≤ m * n :=
  ⟨Int.mul_nonneg ha.1 hb.1, Int.mul_le_mul ha.2 hb.2 hb.1 (Int.le_trans ha.1 ha.2)⟩

/-- E2: what so many guests pay, the sum of the legs being s. -/
def P.cost (al th s g : Int) : Int := if g = 1 then s + P.part s al else 2 * s + (g - 2) * P.part s th
theorem part_in {a h m : Int} (ha : 0 ≤ a ∧ a ≤ m) (hh : 0 ≤ h ∧ h ≤ 100) : 0 ≤ P.part a h ∧ P.part a h ≤ m := by
  have h1 := mul_in ha hh
  have h2 : a * h ≤ a * 100 := Int.mul_le_mul_of_nonneg_left hh.2 ha.1
  unfold P.part
  omega
def P.fareP (L : List (List Int)) (al th : Int) (B : List (Int × Int)) (dn c n p : Int) : Int := if P.fareE L al th B dn c n = 0 then (if P.btw p 0 100000000 = true then 0 else 3) else P.fareE L al th B dn c n

set_option maxHeartbeats 1000000 in
theorem checkPrice_any (lo bo : Option Addr) (lc bc : Nat) (L : List (List Int)) (al th : Int) (B : List (Int × Int)) (dn c n p : Int) (w : World) (hf : FareAt w lo bo lc bc L B) :
    Calls Tryz.prog 180 #[V.fare lo bo lc bc L al th B dn, .int .i64 c, .int .i64 n, .int .i64 p] w fun e w' => e = .returned (.int .i64 (P.fareP L al th B dn c n p)) ∧ Below w.heap.size w w' := by
  cases hz : (P.fareE L al th B dn c n != 0)
  · cases h1 : P.btw p 0 100000000
    all_goals
      have HE : Aside (P.fareP L al th B dn c n p = if P.btw p 0 100000000 = true then 0 else 3) := by show _ = _; rw [P.fareP, if_pos (by simpa using hz)]
      simp only [h1, Bool.false_eq_true, if_true, if_false] at HE
      go_enter Tryz.func180, Tryz.ntmps180
      go_wp2_with (first
        | (go_at_call 105; refine (fareCheck_any _ _ _ _ _ _ _ _ _ _ _ _ (hf.below (by go_grown))).mono ?_; rintro e w1 ⟨rfl, hb1⟩)
        | (go_at_call 168; refine (within_any _ _ _ _).mono ?_; rintro e w2 ⟨rfl, rfl⟩; rw [h1]))
      go_ret
      exact ⟨ret_int HE.out.symm, bvia (by go_grown) hb1⟩
  · have HE : Aside (P.fareP L al th B dn c n p = P.fareE L al th B dn c n) := by show _ = _; rw [P.fareP, if_neg (by simpa using hz)]
    go_enter Tryz.func180, Tryz.ntmps180
    go_wp2_with (go_at_call 105; refine (fareCheck_any _ _ _ _ _ _ _ _ _ _ _ _ (hf.below (by go_grown))).mono ?_; rintro e w1 ⟨rfl, hb1⟩)
    go_ret
    exact ⟨ret_int HE.out.symm, bvia (by go_grown) hb1⟩

theorem fareP_zero {L : List (List Int)} {al th : Int} {B : List (Int × Int)} {dn c n p : Int} (h : P.fareP L al th B dn c n p = 0) : P.fareE L al th B dn c n = 0 ∧ 0 ≤ p ∧ p ≤ 100000000 := by
  unfold P.fareP at h
  split at h
  · rename_i h1
    split at h
    · rename_i h2
      simp [P.btw] at h2
      exact ⟨h1, h2.1, h2.2⟩
    · omega
  · contradiction

theorem ret2_ii {a b a' b' : Int} (h : a = a') (k : b = b') : Ending.returned (.tuple #[.int .i64 a, .int .i64 b]) = .returned (.tuple #[.int .i64 a', .int .i64 b']) := by rw [h, k]

end Go.Proofs.YtlamhfbdeinkkaeGreat.Fo
/- Walks of IndexFunc over bands, Penalty, Price. -/
namespace Go.Proofs.YtlamhfbdeinkkaeGreat.Fo
open Go.RowKit
set_option linter.unusedSimpArgs false
set_option linter.unusedVariables false

section
variable {α : Type} {l : List α} {p : α → Bool} {k : Nat} {x : α}
theorem find_hit (hP : (l.drop k).find? p = l.find? p) (hD : l.drop k = x :: l.drop (k + 1)) (h : p x = true) : l.find? p = some x := by
  rw [hD, List.find?_cons, h] at hP
  exact hP.symm
theorem find_on (hP : (l.drop k).find? p = l.find? p) (hD : l.drop k = x :: l.drop (k + 1)) (h : p x = false) : (l.drop (k + 1)).find? p = l.find? p := by
  rw [hD, List.find?_cons, h] at hP
  exact hP
theorem find_none (hP : (l.drop l.length).find? p = l.find? p) : l.find? p = none := by
  rw [List.drop_of_length_le (Nat.le_refl _)] at hP
  simpa using hP.symm
end

set_option maxHeartbeats 1000000 in
/-- 'IndexFunc' of bands, with whatever function literal that answers p: where the first lies. -/
theorem indexBands_any (ao : Option Addr) (cap : Nat) (l : List (Int × Int)) (F : Nat) (cs : Array Value) (p : Int × Int → Bool) (w : World) (hl : PairsAt w ao cap l)
    (hcf : ∀ (args : Array Value) (wx : World), (callFunc F args).run Tryz.prog wx = .ok (.enter F args) wx)
    (hp : Hid (∀ (x : Int × Int) (wx : World), Below w.heap.size w wx → Calls Tryz.prog F (#[.agg #[.int .i64 x.1, .int .i64 x.2]] ++ cs) wx fun e w' => e = .returned (.bool (p x)) ∧ Below wx.heap.size wx w')) :
    Calls Tryz.prog 181 #[.slice ao l.length cap, .func (.func F) #[] cs] w fun e w' => ∃ n : Int, e = .returned (.int .i64 n) ∧ (l.find? p = none → n = -1) ∧ (∀ x, l.find? p = some x → ∃ k : Nat, n = k ∧ k < l.length ∧ l.drop k = x :: l.drop (k + 1)) ∧ Below w.heap.size w w' := by
  have hle := hl.le
  have hmx := hl.max
  unfold maxLen at hmx
  go_enter Tryz.func181, Tryz.ntmps181
  go_wp2
  go_loopg [8] l.length (fun g i wr => ∃ (k : Nat), k ≤ l.length ∧ g = l.length - k ∧ i = .int .i64 k ∧ (l.drop k).find? p = l.find? p ∧ Below w.heap.size w wr)
  case atStart => exact ⟨0, Nat.zero_le _, rfl, rfl, rfl, Below.refl _ _⟩
  case round =>
    obtain ⟨k, hk, rfl, rfl, hP, hB⟩ := hrel
    have HP : Aside ((l.drop k).find? p = l.find? p) := hP
    clear hP
    by_cases hlt : k < l.length
    · obtain ⟨b, off, x, y, rfl, hbw, hd, hc0, hc1⟩ := PairsAt.get hl hB k hlt
      have HD : Aside (l.drop k = (x, y) :: l.drop (k + 1)) := hd
      clear hd
      cases hpf : p (x, y)
      · go_wp2_with fail
        refine (hp.out (x, y) _ hB).mono ?_
        rintro e w1 ⟨rfl, hb1⟩
        rw [hpf]
        go_wp2
        go_roundg (l.length - (k + 1))
        case measure => omega
        case rel => exact ⟨k + 1, by omega, rfl, by go_num, find_on HP.out HD.out hpf, bvia hB hb1⟩
      · go_wp2_with fail
        refine (hp.out (x, y) _ hB).mono ?_
        rintro e w1 ⟨rfl, hb1⟩
        rw [hpf]
        go_wp2
        go_ret
        have hh := find_hit HP.out HD.out hpf
        exact ⟨_, rfl, (fun h => by rw [hh] at h; cases h), (fun z h => by rw [hh] at h; cases h; exact ⟨k, rfl, hlt, HD.out⟩), bvia hB hb1⟩
    · obtain rfl : k = l.length := by omega
      go_wp2
      go_ret
      have hh := find_none HP.out
      exact ⟨_, rfl, (fun h => rfl), (fun z h => by rw [hh] at h; cases h), hB⟩

set_option maxHeartbeats 400000 in
theorem penalty1_any (x : Int × Int) (d : Int) (g : Nat) (w : World) (h0 : w.cell? ⟨g, 0, none⟩ = some (.int .i64 d)) :
    Calls Tryz.prog 182 #[.agg #[.int .i64 x.1, .int .i64 x.2], .pointer (some ⟨g, 0, none⟩)] w fun e w' => e = .returned (.bool (decide (d ≤ x.1))) ∧ Below w.heap.size w w' := by
  have hg := World.block_lt_of_cell? w _ h0
  have hg' : g < w.heap.size := hg
  have h0' : (w.alloc (.cells #[.int .i64 x.1, .int .i64 x.2] 143)).cell? ⟨g, 0, none⟩ = some (.int .i64 d) := cellIn (by go_grown) h0
  go_enter Tryz.func182, Tryz.ntmps182
  go_wp2
  go_ret
  exact ⟨rfl, by go_grown⟩

/-- E2: the band that tells, of one who cancels d days ahead. -/
def P.band (B : List (Int × Int)) (d : Int) : Option (Int × Int) := B.find? (fun x => decide (d ≤ x.1))
def P.penV (B : List (Int × Int)) (p d : Int) : Int := match P.band B d with | none => 0 | some x => P.part p x.2
def P.penE (L : List (List Int)) (al th : Int) (B : List (Int × Int)) (dn c n p d : Int) : Int := if P.fareP L al th B dn c n p = 0 then (if d < 0 then 3 else 0) else P.fareP L al th B dn c n p
def P.pen (L : List (List Int)) (al th : Int) (B : List (Int × Int)) (dn c n p d : Int) : Int := if P.penE L al th B dn c n p d = 0 then P.penV B p d else 0

theorem bands_zero {B : List (Int × Int)} {d p : Int} (h : P.bands d p B = 0) : ∀ x ∈ B, d < x.1 ∧ x.2 ≤ p ∧ 0 ≤ x.2 ∧ x.2 ≤ 100 := by
  induction B generalizing d p with
  | nil => intro x hx; cases hx
  | cons y B ih =>
    unfold P.bands at h
    split at h
    · rename_i h1
      split at h
      · omega
      · rename_i h2
        simp only [P.btw, Bool.and_eq_true, decide_eq_true_eq] at h1
        intro x hx
        rcases List.mem_cons.1 hx with rfl | hx
        · omega
        · have := ih h x hx; omega
    · omega
theorem bandsE_in {B : List (Int × Int)} (h : P.bandsE B = 0) : ∀ x ∈ B, 0 ≤ x.2 ∧ x.2 ≤ 100 := by
  unfold P.bandsE at h
  split at h
  · intro x hx; exact (bands_zero h x hx).2.2
  · omega

set_option maxHeartbeats 2000000 in
theorem penalty_any (lo bo : Option Addr) (lc bc : Nat) (L : List (List Int)) (al th : Int) (B : List (Int × Int)) (dn c n p d : Int) (w : World) (hf : FareAt w lo bo lc bc L B) :
    Calls Tryz.prog 120 #[V.fare lo bo lc bc L al th B dn, .int .i64 c, .int .i64 n, .int .i64 p, .int .i64 d] w fun e w' => e = .returned (.tuple #[.int .i64 (P.pen L al th B dn c n p d), .int .i64 (P.penE L al th B dn c n p d)]) ∧ Below w.heap.size w w' := by
  have hle := hf.bands.le
  have hmx := hf.bands.max
  unfold maxLen at hmx
  cases hz : (P.fareP L al th B dn c n p != 0)
  · have hz' : P.fareP L al th B dn c n p = 0 := by simpa using hz
    by_cases hd : d < 0
    · have HE : Aside (P.penE L al th B dn c n p d = 3) := by show _ = _; rw [P.penE, if_pos hz', if_pos hd]
      have HV : Aside (P.pen L al th B dn c n p d = 0) := by show _ = _; rw [P.pen, if_neg (by rw [HE.out]; omega)]
      clear hz'
      go_enter Tryz.func120, Tryz.ntmps120
      go_wp2_with (go_at_call 180; refine (checkPrice_any _ _ _ _ _ _ _ _ _ _ _ _ _ (hf.below (by go_grown))).mono ?_; rintro e w1 ⟨rfl, hb1⟩; have c4 : w1.cell? ⟨w.heap.size + 1, 0, none⟩ = some (.int .i64 d) := cellIn hb1 (by simp))
      go_ret2
      exact ⟨ret2_ii HV.out.symm HE.out.symm, bvia (by go_grown) hb1⟩
    · have HE : Aside (P.penE L al th B dn c n p d = 0) := by show _ = _; rw [P.penE, if_pos hz', if_neg hd]
      have HV : Aside (P.pen L al th B dn c n p d = P.penV B p d) := by show _ = _; rw [P.pen, if_pos HE.out]
      obtain ⟨k1, k2, k3⟩ := fareP_zero hz'
      obtain ⟨_, _, _, _, _, _, _, k5⟩ := fareE_zero k1
      have HB : Aside (∀ x ∈ B, 0 ≤ x.2 ∧ x.2 ≤ 100) := bandsE_in k5
      have hx : ∀ (W : World), PairsAt W bo bc B → W.cell? ⟨w.heap.size + 1, 0, none⟩ = some (.int .i64 d) →
          Calls Tryz.prog 181 #[.slice bo B.length bc, .func (.func 182) #[] #[.pointer (some ⟨w.heap.size + 1, 0, none⟩)]] W fun e w' => ∃ n : Int, e = .returned (.int .i64 n) ∧ (P.band B d = none → n = -1) ∧ (∀ x, P.band B d = some x → ∃ k : Nat, n = k ∧ k < B.length ∧ B.drop k = x :: B.drop (k + 1)) ∧ Below W.heap.size W w' := fun W hW h0 =>
        indexBands_any bo bc B 182 _ _ W hW (fun args wx => by go_simp) (fun x wx hb => by rw [arr2]; exact penalty1_any x d _ wx (cellIn hb h0))
      have HX := (show Hid _ from hx)
      clear hx hz' k1 k5
      go_enter Tryz.func120, Tryz.ntmps120
      go_wp2_with (first
        | (go_at_call 180; refine (checkPrice_any _ _ _ _ _ _ _ _ _ _ _ _ _ (hf.below (by go_grown))).mono ?_; rintro e w1 ⟨rfl, hb1⟩; have c3 : w1.cell? ⟨w.heap.size, 3, none⟩ = some (.slice bo B.length bc) := cellIn hb1 (by simp); have c4 : w1.cell? ⟨w.heap.size + 1, 0, none⟩ = some (.int .i64 d) := cellIn hb1 (by simp); have hB1 : Below w.heap.size w w1 := bvia (by go_grown) hb1))
      refine (HX.out _ (SlAt.below RPair.mono hf.bands hB1) c4).mono ?_
      rintro e w2 ⟨m, rfl, hn, hs, hb2⟩
      have d3 := cellIn hb2 c3
      have hB2 := bvia hB1 hb2
      cases hbd : P.band B d with
      | none =>
        have hm := hn hbd
        subst hm
        clear hn hs
        have HW : Aside (P.penV B p d = 0) := by show _ = _; rw [P.penV, hbd]
        go_wp2
        go_ret2
        exact ⟨ret2_ii (by rw [HV.out, HW.out]) HE.out.symm, hB2⟩
      | some x =>
        obtain ⟨k, rfl, hk, hdr⟩ := hs x hbd
        clear hn hs
        have HW : Aside (P.penV B p d = P.part p x.2) := by show _ = _; rw [P.penV, hbd]
        have hx2 := HB.out x (memA hk hdr)
        obtain ⟨b, off, x1, y1, rfl, hbw, hd1, hc0, hc1⟩ := PairsAt.get hf.bands hB2 k hk
        rw [hdr] at hd1
        simp only [List.cons.injEq, and_true] at hd1
        subst hd1
        have m1 := mul_in (m := 100000000) ⟨k2, k3⟩ hx2
        simp only at m1 hx2
        clear hdr hbd
        go_wp2_with (go_at_call 183; refine (part_any _ _ _ (by omega) (by omega)).mono ?_; rintro e w3 ⟨rfl, rfl⟩)
        go_ret2
        exact ⟨ret2_ii (by rw [HV.out, HW.out]) HE.out.symm, hB2⟩
  · have HE : Aside (P.penE L al th B dn c n p d = P.fareP L al th B dn c n p) := by show _ = _; rw [P.penE, if_neg (by simpa using hz)]
    have HV : Aside (P.pen L al th B dn c n p d = 0) := by show _ = _; rw [P.pen, if_neg (by rw [HE.out]; simpa using hz)]
    go_enter Tryz.func120, Tryz.ntmps120
    go_wp2_with (go_at_call 180; refine (checkPrice_any _ _ _ _ _ _ _ _ _ _ _ _ _ (hf.below (by go_grown))).mono ?_; rintro e w1 ⟨rfl, hb1⟩)
    go_ret2
    exact ⟨ret2_ii HV.out.symm HE.out.symm, bvia (by go_grown) hb1⟩

end Go.Proofs.YtlamhfbdeinkkaeGreat.Fo
/- Walk of Price. -/
namespace Go.Proofs.YtlamhfbdeinkkaeGreat.Fo
open Go.RowKit
set_option linter.unusedSimpArgs false
set_option linter.unusedVariables false

def P.seg (l : List Int) (f t : Nat) : List Int := (l.drop f).take (t - f)
/-- The sum of a category's legs of a span. -/
def P.legSum (L : List (List Int)) (k f t : Int) : Int := P.tot (P.seg (L.getD k.toNat []) f.toNat t.toNat)
def P.priceE (L : List (List Int)) (al th : Int) (B : List (Int × Int)) (dn c n k f t g : Int) : Int :=
  if P.fareE L al th B dn c n = 0 then (if P.btw k 0 (c - 1) = true then (if P.chk f t n = 0 then (if P.btw g 1 4 = true then 0 else 3) else P.chk f t n) else 3) else P.fareE L al th B dn c n
def P.price (L : List (List Int)) (al th : Int) (B : List (Int × Int)) (dn c n k f t g : Int) : Int :=
  if P.priceE L al th B dn c n k f t g = 0 then P.cost al th (P.legSum L k f t) g else 0

end Go.Proofs.YtlamhfbdeinkkaeGreat.Fo
/- Walks of table, fareBegun. -/
namespace Go.Proofs.YtlamhfbdeinkkaeGreat.Fo
open Go.RowKit
set_option linter.unusedSimpArgs false
set_option linter.unusedVariables false

def T.L : List (List Int) := [[100, 200, 301], [150, 250, 350], [500, 500, 500]]
def T.B : List (Int × Int) := [(7, 100), (30, 50)]
abbrev tableObjs (n : Nat) : List Obj := [
  .cells #[.slice (some ⟨n + 1 + 1 + 1 + 1, 0, none⟩) 3 3, .int .i64 50, .int .i64 33, .slice (some ⟨n + 1 + 1 + 1 + 1 + 1, 0, none⟩) 2 2, .int .i64 20] 29,
  .cells #[.int .i64 100, .int .i64 200, .int .i64 301] 3, .cells #[.int .i64 150, .int .i64 250, .int .i64 350] 3, .cells #[.int .i64 500, .int .i64 500, .int .i64 500] 3,
  .cells #[.slice (some ⟨n + 1, 0, none⟩) 3 3, .slice (some ⟨n + 1 + 1, 0, none⟩) 3 3, .slice (some ⟨n + 1 + 1 + 1, 0, none⟩) 3 3] 47,
  .cells #[.int .i64 7, .int .i64 100, .int .i64 30, .int .i64 50] 143]

theorem ints3 {w : World} {b : Nat} {a x c : Int} (h : w.heap[b]? = some (.cells #[.int .i64 a, .int .i64 x, .int .i64 c] 3)) : IntsAt w (some ⟨b, 0, none⟩) 3 [a, x, c] :=
  SlAt.ofBlock [[.int .i64 a], [.int .i64 x], [.int .i64 c]] (l := [a, x, c]) h rfl rfl (fun i hi => by have hi : i < 3 := hi; match i, hi with | 0, _ => exact ⟨_, rfl, rfl⟩ | 1, _ => exact ⟨_, rfl, rfl⟩ | 2, _ => exact ⟨_, rfl, rfl⟩) (by simp) (by simp [maxLen])

end Go.Proofs.YtlamhfbdeinkkaeGreat.Fo
/- Walks of the laws FarePenalty and FareParts. -/
namespace Go.Proofs.YtlamhfbdeinkkaeGreat.Fo
open Go.RowKit
set_option linter.unusedSimpArgs false
set_option linter.unusedVariables false

/-- Fares, a span, each in a block of its own. -/
structure FBox (w : World) (g : Nat) (lo bo : Option Addr) (lc bc : Nat) (L : List (List Int)) (al th : Int) (B : List (Int × Int)) (dn : Int) : Prop where
  c0 : w.cell? ⟨g, 0, none⟩ = some (.slice lo L.length lc)
  c1 : w.cell? ⟨g, 1, none⟩ = some (.int .i64 al)
  c2 : w.cell? ⟨g, 2, none⟩ = some (.int .i64 th)
  c3 : w.cell? ⟨g, 3, none⟩ = some (.slice bo B.length bc)
  c4 : w.cell? ⟨g, 4, none⟩ = some (.int .i64 dn)
structure SBox (w : World) (g : Nat) (f t : Int) : Prop where
  c0 : w.cell? ⟨g, 0, none⟩ = some (.int .i64 f)
  c1 : w.cell? ⟨g, 1, none⟩ = some (.int .i64 t)
section
variable {w w' : World} {g : Nat} {lo bo : Option Addr} {lc bc : Nat} {L : List (List Int)} {al th : Int} {B : List (Int × Int)} {dn f t : Int}
theorem FBox.below (h : FBox w g lo bo lc bc L al th B dn) (hb : Below w.heap.size w w') : FBox w' g lo bo lc bc L al th B dn :=
  ⟨cellIn hb h.c0, cellIn hb h.c1, cellIn hb h.c2, cellIn hb h.c3, cellIn hb h.c4⟩
theorem SBox.below (h : SBox w g f t) (hb : Below w.heap.size w w') : SBox w' g f t := ⟨cellIn hb h.c0, cellIn hb h.c1⟩
end

theorem penV_in {B : List (Int × Int)} {p d : Int} (h : ∀ x ∈ B, 0 ≤ x.2 ∧ x.2 ≤ 100) (hp : 0 ≤ p) : 0 ≤ P.penV B p d ∧ P.penV B p d ≤ p := by
  unfold P.penV
  cases hb : P.band B d with
  | none => exact ⟨by simp, by simpa using hp⟩
  | some x => exact part_in ⟨hp, Int.le_refl _⟩ (h x (List.mem_of_find?_eq_some hb))

end Go.Proofs.YtlamhfbdeinkkaeGreat.Fo
/- Walk of the document's CheckFares. -/
namespace Go.Proofs.YtlamhfbdeinkkaeGreat.Fo
open Go.RowKit
set_option linter.unusedSimpArgs false
set_option linter.unusedVariables false

/-- The world behind the box that holds the fares. -/
abbrev W.fare (w : World) (lo bo : Option Addr) (lc bc : Nat) (L : List (List Int)) (al th : Int) (B : List (Int × Int)) (dn : Int) : World :=
  w.alloc (.cells #[.slice lo L.length lc, .int .i64 al, .int .i64 th, .slice bo B.length bc, .int .i64 dn] 29)

theorem bands_first {B : List (Int × Int)} {x y : Int} {r : List (Int × Int)} (h1 : P.btw x 0 999 = true) (h2 : P.btw y 0 100 = true) : P.bands (-1) 100 ((x, y) :: r) = P.bands x y r := by
  rw [P.bands, if_pos ⟨h1, h2⟩, if_neg]
  simp only [P.btw, Bool.and_eq_true, decide_eq_true_eq] at h1 h2
  simp only
  omega

set_option maxHeartbeats 8000000 in
set_option maxRecDepth 4000 in
theorem checkFares_any (lo bo : Option Addr) (lc bc : Nat) (L : List (List Int)) (al th : Int) (B : List (Int × Int)) (dn c n : Int) (w : World) (hf : FareAt w lo bo lc bc L B) :
    Calls Tryz.prog 73 #[V.fare lo bo lc bc L al th B dn, .int .i64 c, .int .i64 n] w fun e w' => e = .returned (.int .i64 (P.fareE L al th B dn c n)) ∧ Below w.heap.size w w' := by
  have hle := hf.legs.le
  have hmx := hf.legs.max
  have hle2 := hf.bands.le
  have hmx2 := hf.bands.max
  unfold maxLen at hmx hmx2
  cases h1 : P.btw c 1 5
  · have HE : Aside (P.fareE L al th B dn c n = 3) := by show _ = _; simp [P.fareE, h1]
    go_enter Tryz.func73, Tryz.ntmps73
    go_wp2_with (go_at_call 74; refine (between_any _ _ _ _).mono ?_; rintro e w1 ⟨rfl, rfl⟩; rw [h1])
    go_ret
    exact ⟨ret_int HE.out.symm, by go_grown⟩
  cases h2 : P.btw n 1 7
  · have HE : Aside (P.fareE L al th B dn c n = 3) := by show _ = _; simp [P.fareE, h2]
    go_enter Tryz.func73, Tryz.ntmps73
    go_wp2_with (go_at_call 74; refine (between_any _ _ _ _).mono ?_; rintro e w1 ⟨rfl, rfl⟩; first | rw [h1] | rw [h2])
    go_ret
    exact ⟨ret_int HE.out.symm, by go_grown⟩
  by_cases h3 : (L.length : Int) = c
  rotate_left
  · have HE : Aside (P.fareE L al th B dn c n = 1) := by show _ = _; simp [P.fareE, h1, h2, P.legsE, h3]
    have h3' : ((L.length : Int) != c) = true := by simpa using h3
    go_enter Tryz.func73, Tryz.ntmps73
    go_wp2_with (go_at_call 74; refine (between_any _ _ _ _).mono ?_; rintro e w1 ⟨rfl, rfl⟩; first | rw [h1] | rw [h2])
    go_ret
    exact ⟨ret_int HE.out.symm, by go_grown⟩
  have HE : Aside (P.fareE L al th B dn c n = if L.any (fun r => decide ((r.length : Int) ≠ n)) = true then 1 else if L.any P.badRow = true then 3 else (if P.btw al 0 200 = true ∧ P.btw th 0 100 = true ∧ P.btw dn 0 100 = true then P.bandsE B else 3)) := by
    show _ = _
    rw [P.fareE, if_pos ⟨h1, h2⟩, P.legsE, if_pos h3]
    cases L.any (fun r => decide ((r.length : Int) ≠ n)) <;> cases L.any P.badRow <;> simp
  have h3' : ((L.length : Int) != c) = false := by simpa using h3
  have hn17 : 1 ≤ n ∧ n ≤ 7 := by simpa [P.btw] using h2
  clear h3
  go_enter Tryz.func73, Tryz.ntmps73
  go_wp2_with (go_at_call 74; refine (between_any _ _ _ _).mono ?_; rintro e w1 ⟨rfl, rfl⟩; first | rw [h1] | rw [h2])
  clear h1 h2 h3'
  go_loopg [7] L.length (fun g i wr => ∃ (k : Nat), k ≤ L.length ∧ g = L.length - k ∧ i = .int .i64 k ∧ (L.drop k).any (fun r => decide ((r.length : Int) ≠ n)) = L.any (fun r => decide ((r.length : Int) ≠ n)) ∧ wr = W.fare w lo bo lc bc L al th B dn)
  case atStart => exact ⟨0, Nat.zero_le _, rfl, rfl, rfl, rfl⟩
  case round =>
    obtain ⟨k, hk, rfl, rfl, hP, rfl⟩ := hrel
    have HP : Aside ((L.drop k).any (fun r => decide ((r.length : Int) ≠ n)) = L.any (fun r => decide ((r.length : Int) ≠ n))) := hP
    clear hP
    by_cases hlt : k < L.length
    · obtain ⟨b, off, r, ro, rc, rfl, hbw, hd, hc0, hr⟩ := RowsAt.get hf.legs (w' := W.fare w lo bo lc bc L al th B dn) (by go_grown) k hlt
      have HD : Aside (L.drop k = r :: L.drop (k + 1)) := hd
      have hrl := hr.le
      have hrm := hr.max
      unfold maxLen at hrm
      clear hd hr
      by_cases hrn : (r.length : Int) = n
      · have hrn' : ((r.length : Int) != n) = false := by simpa using hrn
        have HR : Aside (decide ((r.length : Int) ≠ n) = false) := by show _ = _; simpa using hrn
        clear hrn
        go_wp2
        go_roundg (L.length - (k + 1))
        case measure => omega
        case rel => exact ⟨k + 1, by omega, rfl, by go_num, any_on HP.out HD.out HR.out, rfl⟩
      · have hrn' : ((r.length : Int) != n) = true := by simpa using hrn
        have HR : Aside (decide ((r.length : Int) ≠ n) = true) := by show _ = _; simpa using hrn
        go_wp2
        go_ret
        exact ⟨ret_int (by rw [HE.out, any_hit hlt HD.out HR.out]; rfl), by go_grown⟩
    · obtain rfl : k = L.length := by omega
      have hA := any_none HP.out
      have HA : Aside (∀ r ∈ L, (r.length : Int) = n) := fun r hr => by
        rw [List.any_eq_false] at hA
        simpa using hA r hr
      have HE2 : Aside (P.fareE L al th B dn c n = if L.any P.badRow = true then 3 else (if P.btw al 0 200 = true ∧ P.btw th 0 100 = true ∧ P.btw dn 0 100 = true then P.bandsE B else 3)) := by
        show _ = _
        rw [HE.out, hA]
        rfl
      clear HP hA HE hk hlt
      go_wp2
      go_loopg [8] L.length (fun g i wr => ∃ (k : Nat), k ≤ L.length ∧ g = L.length - k ∧ i = .int .i64 k ∧ (L.drop k).any P.badRow = L.any P.badRow ∧ wr = W.fare w lo bo lc bc L al th B dn)
      case atStart => exact ⟨0, Nat.zero_le _, rfl, rfl, rfl, rfl⟩
      case round =>
        obtain ⟨k, hk, rfl, rfl, hP, rfl⟩ := hrel
        have HP : Aside ((L.drop k).any P.badRow = L.any P.badRow) := hP
        clear hP
        by_cases hlt : k < L.length
        · obtain ⟨b, off, r, ro, rc, rfl, hbw, hd, hc0, hr⟩ := RowsAt.get hf.legs (w' := W.fare w lo bo lc bc L al th B dn) (by go_grown) k hlt
          have HD : Aside (L.drop k = r :: L.drop (k + 1)) := hd
          have hrl := hr.le
          have hrm := hr.max
          unfold maxLen at hrm
          have HRN : Aside ((r.length : Int) = n) := HA.out r (memA hlt hd)
          clear hd
          go_wp2
          go_loopg [9] r.length (fun g i wr => ∃ (j : Nat), j ≤ r.length ∧ g = r.length - j ∧ i = .int .i64 j ∧ (r.drop j).any (fun x => !P.btw x 0 100000) = P.badRow r ∧ wr = W.fare w (some ⟨b, off, none⟩) bo lc bc L al th B dn)
          case atStart => exact ⟨0, Nat.zero_le _, rfl, rfl, rfl, rfl⟩
          case round =>
            obtain ⟨j, hj, rfl, rfl, hQ, rfl⟩ := hrel
            have HQ : Aside ((r.drop j).any (fun x => !P.btw x 0 100000) = P.badRow r) := hQ
            clear hQ
            by_cases hjl : j < r.length
            · obtain ⟨b2, off2, x, rfl, hbw2, hd2, hc2⟩ := hr.get (Below.refl _ _) j hjl
              have HD2 : Aside (r.drop j = x :: r.drop (j + 1)) := hd2
              have hjn : (j : Int) < n := by have := HRN.out; omega
              clear hd2
              cases hx : P.btw x 0 100000
              · go_wp2_with (go_at_call 74; refine (between_any _ _ _ _).mono ?_; rintro e w1 ⟨rfl, rfl⟩; rw [hx])
                go_ret
                exact ⟨ret_int (by rw [HE2.out, any_hit hlt HD.out (any_hit hjl HD2.out (by rw [hx]; rfl))]; rfl), by go_grown⟩
              · go_wp2_with (go_at_call 74; refine (between_any _ _ _ _).mono ?_; rintro e w1 ⟨rfl, rfl⟩; rw [hx])
                go_roundg (r.length - (j + 1))
                case measure => omega
                case rel => exact ⟨j + 1, by omega, rfl, by go_num, any_on HQ.out HD2.out (by rw [hx]; rfl), rfl⟩
            · obtain rfl : j = r.length := by omega
              have hjn : ¬ ((r.length : Nat) : Int) < n := by have := HRN.out; omega
              have HB : Aside (P.badRow r = false) := any_none HQ.out
              clear HQ
              go_wp2
              go_roundg (L.length - (k + 1))
              case measure => omega
              case rel => exact ⟨k + 1, by omega, rfl, by go_num, any_on HP.out HD.out HB.out, rfl⟩
        · obtain rfl : k = L.length := by omega
          have hB := any_none HP.out
          have HE3 : Aside (P.fareE L al th B dn c n = (if P.btw al 0 200 = true ∧ P.btw th 0 100 = true ∧ P.btw dn 0 100 = true then P.bandsE B else 3)) := by
            show _ = _
            rw [HE2.out, hB]
            rfl
          clear HP HE2 hB HA hk hlt
          cases h3 : P.btw al 0 200 <;> cases h4 : P.btw th 0 100 <;> cases h5 : P.btw dn 0 100
          rotate_left 7
          · have HE4 : Aside (P.fareE L al th B dn c n = P.bandsE B) := by show _ = _; rw [HE3.out]; simp [h3, h4, h5]
            clear HE3
            by_cases hb4 : 4 < B.length
            · have HE5 : Aside (P.bandsE B = 2) := by show _ = _; rw [P.bandsE, if_neg (by omega)]
              have hb4' : (4 : Int) < B.length := by omega
              go_wp2_with (go_at_call 74; refine (between_any _ _ _ _).mono ?_; rintro e w1 ⟨rfl, rfl⟩; first | rw [h3] | rw [h4] | rw [h5])
              go_ret
              exact ⟨ret_int (by rw [HE4.out, HE5.out]), by go_grown⟩
            · have HE5 : Aside (P.bandsE B = P.bands (-1) 100 B) := by show _ = _; rw [P.bandsE, if_pos (by omega)]
              have hb4' : ¬ (4 : Int) < B.length := by omega
              go_wp2_with (go_at_call 74; refine (between_any _ _ _ _).mono ?_; rintro e w1 ⟨rfl, rfl⟩; first | rw [h3] | rw [h4] | rw [h5])
              clear h3 h4 h5
              go_loopg [10] B.length (fun g i wr => ∃ (k : Nat) (d p : Int), k ≤ B.length ∧ g = B.length - k ∧ i = .int .i64 k ∧ P.bands d p (B.drop k) = P.bandsE B ∧ (k = 0 → d = -1 ∧ p = 100) ∧ (∀ j, k = j + 1 → B[j]? = some (d, p)) ∧ wr.cell? ⟨w.heap.size, 3, none⟩ = some (.slice bo B.length bc) ∧ Below w.heap.size w wr)
              case atStart => exact ⟨0, -1, 100, Nat.zero_le _, rfl, rfl, HE5.out.symm, fun _ => ⟨rfl, rfl⟩, (fun j h => by omega), (by simp), by go_grown⟩
              case round =>
                obtain ⟨k, d, p, hk, rfl, rfl, hP, hz, hprev, hbx, hB⟩ := hrel
                have HP : Aside (P.bands d p (B.drop k) = P.bandsE B) := hP
                have HZ : Aside ((k = 0 → d = -1 ∧ p = 100) ∧ (∀ j, k = j + 1 → B[j]? = some (d, p))) := ⟨hz, hprev⟩
                have hBs := hB.size
                have hbl := World.block_lt_of_cell? wr _ hbx
                have hbl' : w.heap.size < wr.heap.size := hbl
                clear hP hz hprev HE5 hbl
                by_cases hlt : k < B.length
                · obtain ⟨b, off, x, y, rfl, hbw, hd, hc0, hc1⟩ := PairsAt.get hf.bands hB k hlt
                  rw [hd] at HP
                  have hgk := getA hlt hd
                  have HG : Aside (B[k]? = some (x, y)) := by show _ = _; rw [List.getElem?_eq_getElem hlt, hgk]
                  clear hd hgk
                  have hbb : b < wr.heap.size := by omega
                  cases h1 : P.btw x 0 999
                  · rw [P.bands, if_neg (by simp [h1])] at HP
                    go_wp2_with (go_at_call 74; refine (between_any _ _ _ _).mono ?_; rintro e w1 ⟨rfl, rfl⟩; rw [h1])
                    go_ret
                    exact ⟨ret_int (by rw [HE4.out, ← HP.out]), bvia hB (by go_grown)⟩
                  · cases h2 : P.btw y 0 100
                    · rw [P.bands, if_neg (by simp [h2])] at HP
                      go_wp2_with (go_at_call 74; refine (between_any _ _ _ _).mono ?_; rintro e w1 ⟨rfl, rfl⟩; first | rw [h1] | rw [h2])
                      go_ret
                      exact ⟨ret_int (by rw [HE4.out, ← HP.out]), bvia hB (by go_grown)⟩
                    · by_cases hk0 : k = 0
                      · subst hk0
                        obtain ⟨rfl, rfl⟩ := HZ.out.1 rfl
                        rw [bands_first (B := B) h1 h2] at HP
                        simp only [Nat.zero_mul, Nat.add_zero] at hc0 hc1
                        go_wp2_with (go_at_call 74; refine (between_any _ _ _ _).mono ?_; rintro e w1 ⟨rfl, rfl⟩; first | rw [h1] | rw [h2])
                        go_quiet (fail)
                        go_wp2
                        go_roundg (B.length - 1)
                        case measure => omega
                        case rel => exact ⟨1, x, y, by omega, rfl, by go_num, HP.out, (fun h => by omega), (fun j h => by obtain rfl : j = 0 := (by omega); exact HG.out), cellIn (below_drewN (by go_grown) _) hbx, below_drewN (bvia hB (by go_grown)) _⟩
                      · obtain ⟨j, rfl⟩ : ∃ j, k = j + 1 := ⟨k - 1, by omega⟩
                        have hprev := HZ.out.2 j rfl
                        obtain ⟨b3, o3, x3, y3, e3, _, hd3, hc3, hc4⟩ := PairsAt.get hf.bands hB j (by omega)
                        simp only [Option.some.injEq, Addr.mk.injEq] at e3
                        obtain ⟨rfl, rfl, _⟩ := e3
                        have hg3 := getA (show j < B.length by omega) hd3
                        rw [List.getElem?_eq_getElem (by omega), hg3] at hprev
                        simp only [Option.some.injEq, Prod.mk.injEq] at hprev
                        obtain ⟨rfl, rfl⟩ := hprev
                        rw [P.bands, if_pos ⟨h1, h2⟩] at HP
                        simp only at HP
                        clear hd3 hg3 hk0
                        have hq1 : (j : Int) + 1 < (B.length : Int) := by omega
                        have hq2 : (j : Int) < (B.length : Int) := by omega
                        have hq0 : (0 : Int) ≤ (j : Int) + 1 := by omega
                        have hqp : (0 : Int) < (j : Int) + 1 := by omega
                        by_cases hx : x ≤ x3
                        · have hx' : decide (x ≤ x3) = true := by simpa using hx
                          rw [if_pos (.inl hx)] at HP
                          go_wp2_with (go_at_call 74; refine (between_any _ _ _ _).mono ?_; rintro e w1 ⟨rfl, rfl⟩; first | rw [h1] | rw [h2])
                          go_quiet (fail)
                          go_wp2
                          go_ret
                          exact ⟨ret_int (by rw [HE4.out, ← HP.out]), below_drewN (bvia hB (by go_grown)) _⟩
                        · have hx' : decide (x ≤ x3) = false := by simpa using hx
                          by_cases hy : y3 < y
                          · have hy' : decide (y3 < y) = true := by simpa using hy
                            rw [if_pos (.inr hy)] at HP
                            go_wp2_with (go_at_call 74; refine (between_any _ _ _ _).mono ?_; rintro e w1 ⟨rfl, rfl⟩; first | rw [h1] | rw [h2])
                            go_quiet (fail)
                            go_wp2
                            go_ret
                            exact ⟨ret_int (by rw [HE4.out, ← HP.out]), below_drewN (bvia hB (by go_grown)) _⟩
                          · have hy' : decide (y3 < y) = false := by simpa using hy
                            rw [if_neg (by omega)] at HP
                            go_wp2_with (go_at_call 74; refine (between_any _ _ _ _).mono ?_; rintro e w1 ⟨rfl, rfl⟩; first | rw [h1] | rw [h2])
                            go_quiet (fail)
                            go_wp2
                            go_roundg (B.length - (j + 1 + 1))
                            case measure => omega
                            case rel => exact ⟨j + 1 + 1, x, y, by omega, rfl, by go_num, HP.out, (fun h => by omega), (fun i h => by obtain rfl : i = j + 1 := (by omega); exact HG.out), cellIn (below_drewN (by go_grown) _) hbx, below_drewN (bvia hB (by go_grown)) _⟩
                · obtain rfl : k = B.length := by omega
                  rw [List.drop_of_length_le (Nat.le_refl _), P.bands] at HP
                  go_wp2
                  go_ret
                  exact ⟨ret_int (by rw [HE4.out, ← HP.out]), hB⟩
          all_goals
            go_wp2_with (go_at_call 74; refine (between_any _ _ _ _).mono ?_; rintro e w1 ⟨rfl, rfl⟩; first | rw [h3] | rw [h4] | rw [h5])
            go_ret
            exact ⟨ret_int (by rw [HE3.out]; simp [h3, h4, h5]), by go_grown⟩

end Go.Proofs.YtlamhfbdeinkkaeGreat.Fo
/- Walks of the document's PriceOf and PenaltyOf. -/
namespace Go.Proofs.YtlamhfbdeinkkaeGreat.Fo
open Go.RowKit
set_option linter.unusedSimpArgs false
set_option linter.unusedVariables false

/-- What the first j guests pay. -/
def P.pay (S Q : Int) : Nat → Int
  | 0 => 0
  | 1 => S
  | 2 => 2 * S
  | 3 => 2 * S + Q
  | _ => 2 * S + 2 * Q

set_option maxHeartbeats 2000000 in
theorem penaltyOf_any (lo bo : Option Addr) (lc bc : Nat) (L : List (List Int)) (al th : Int) (B : List (Int × Int)) (dn p d : Int) (w : World) (hf : FareAt w lo bo lc bc L B) (hB : ∀ x ∈ B, 0 ≤ x.2 ∧ x.2 ≤ 100) (hp : 0 ≤ p ∧ p ≤ 100000000) :
    Calls Tryz.prog 133 #[V.fare lo bo lc bc L al th B dn, .int .i64 p, .int .i64 d] w fun e w' => e = .returned (.int .i64 (P.penV B p d)) ∧ Below w.heap.size w w' := by
  have hle := hf.bands.le
  have hmx := hf.bands.max
  unfold maxLen at hmx
  have HB : Aside (∀ x ∈ B, 0 ≤ x.2 ∧ x.2 ≤ 100) := hB
  clear hB
  go_enter Tryz.func133, Tryz.ntmps133
  go_wp2
  go_loopg [7] B.length (fun g i wr => ∃ (k : Nat), k ≤ B.length ∧ g = B.length - k ∧ i = .int .i64 k ∧ (B.drop k).find? (fun x => decide (d ≤ x.1)) = P.band B d ∧ wr = w.alloc (.cells #[.slice lo L.length lc, .int .i64 al, .int .i64 th, .slice bo B.length bc, .int .i64 dn] 29))
  case atStart => exact ⟨0, Nat.zero_le _, rfl, rfl, rfl, rfl⟩
  case round =>
    obtain ⟨k, hk, rfl, rfl, hP, rfl⟩ := hrel
    have HP : Aside ((B.drop k).find? (fun x => decide (d ≤ x.1)) = P.band B d) := hP
    clear hP
    by_cases hlt : k < B.length
    · obtain ⟨b, off, x, y, rfl, hbw, hd, hc0, hc1⟩ := PairsAt.get hf.bands (w' := w.alloc (.cells #[.slice lo L.length lc, .int .i64 al, .int .i64 th, .slice bo B.length bc, .int .i64 dn] 29)) (by go_grown) k hlt
      have HD : Aside (B.drop k = (x, y) :: B.drop (k + 1)) := hd
      have hy := HB.out _ (memA hlt hd)
      simp only at hy
      have m1 := mul_in hp hy
      clear hd
      by_cases hx : d ≤ x
      · have HW : Aside (P.penV B p d = P.part p y) := by
          have := find_hit (p := fun x => decide (d ≤ x.1)) HP.out HD.out (by simpa using hx)
          show _ = _
          rw [P.penV, P.band, this]
        go_wp2_with (go_at_call 187; refine (partOf_any _ _ _ (by omega) (by omega)).mono ?_; rintro e w2 ⟨rfl, rfl⟩)
        go_ret
        exact ⟨ret_int HW.out.symm, by go_grown⟩
      · go_wp2
        go_roundg (B.length - (k + 1))
        case measure => omega
        case rel => exact ⟨k + 1, by omega, rfl, by go_num, find_on (p := fun x => decide (d ≤ x.1)) HP.out HD.out (by simpa using hx), rfl⟩
    · obtain rfl : k = B.length := by omega
      have HW : Aside (P.penV B p d = 0) := by
        have := find_none (p := fun x : Int × Int => decide (d ≤ x.1)) HP.out
        show _ = _
        rw [P.penV, P.band, this]
      go_wp2
      go_ret
      exact ⟨ret_int HW.out.symm, by go_grown⟩

end Go.Proofs.YtlamhfbdeinkkaeGreat.Fo
