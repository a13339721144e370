import Derived.Test.YtlamhfbdeinkkaeGreatFoAs
import Derived.Deep.OwnRows
set_option maxRecDepth 10000
/- Walks of checkLegs, checkBands, fare.Check, checkPrice. -/
namespace Go.Proofs.YtlamhfbdeinkkaeGreat.Fo
open Go.RowKit
set_option linter.unusedSimpArgs false
set_option linter.unusedVariables false

/-- A function value stored into a new variable. -/
theorem store_func (W : World) (b : Nat) (hb : W.heap.size = b) : (store ⟨b, 0, none⟩ (.func (.func 217) #[] #[])).run Tryz.prog (W.alloc (.cells #[.nilFunc] 136)) = .ok () (W.alloc (.cells #[.func (.func 217) #[] #[]] 136)) := by
  subst hb
  have hv : (Value.func (.func 217) #[] #[]).oneCell' = true := rfl
  simp [run_store _ _ _ _ _ hv]
  rw [World.setCell_alloc_at (hn := rfl)]
  simp
theorem cell_func (W : World) : (W.alloc (.cells #[.func (.func 217) #[] #[]] 136)).cell? ⟨W.heap.size, 0, none⟩ = some (.func (.func 217) #[] #[]) := by
  have h := _root_.Go.heap_alloc_new W (.cells #[.func (.func 217) #[] #[]] 136)
  simp only [World.cell?, h]
  rfl

set_option maxHeartbeats 1000000 in
theorem checkLegs_any (ao : Option Addr) (cap : Nat) (L : List (List Int)) (c n : Int) (w : World) (hl : RowsAt w ao cap L) :
    Calls Tryz.prog 169 #[.slice ao L.length cap, .int .i64 c, .int .i64 n] w fun e w' => e = .returned (.int .i64 (P.legsE L c n)) ∧ Below w.heap.size w w' := by
  have hle := hl.le
  have hmx := hl.max
  unfold maxLen at hmx
  have H1 : ∀ W : World, RowsAt W ao cap L → W.cell? ⟨w.heap.size, 0, none⟩ = some (.int .i64 n) →
      Calls Tryz.prog 215 #[.slice ao L.length cap, .func (.func 216) #[] #[.pointer (some ⟨w.heap.size, 0, none⟩)]] W fun e w' => e = .returned (.bool (L.any (fun r => decide ((r.length : Int) ≠ n)))) ∧ Below W.heap.size W w' := fun W hW h0 =>
    containsRows_any ao cap L 216 _ _ W hW (fun args wx => by go_simp) (fun r ro rc wx hr hb => by rw [arr2]; exact legs1_any ro rc r n _ wx hr (cellIn hb h0))
  have H2 : ∀ (W : World) (g : Nat), RowsAt W ao cap L → W.cell? ⟨g, 0, none⟩ = some (.func (.func 217) #[] #[]) →
      Calls Tryz.prog 215 #[.slice ao L.length cap, .func (.func 218) #[] #[.pointer (some ⟨g, 0, none⟩)]] W fun e w' => e = .returned (.bool (L.any P.badRow)) ∧ Below W.heap.size W w' := fun W g hW h0 =>
    containsRows_any ao cap L 218 _ _ W hW (fun args wx => by go_simp) (fun r ro rc wx hr hb => by rw [arr2]; exact legs3_any ro rc r _ wx hr (cellIn hb h0))
  have hoc := store_func
  have HH1 := (show Hid _ from H1)
  have HH2 := (show Hid _ from H2)
  clear H1 H2
  by_cases h3 : (L.length : Int) = c
  · have h3' : ((L.length : Int) != c) = false := by simpa using h3
    cases h4 : L.any (fun r => decide ((r.length : Int) ≠ n))
    · cases h5 : L.any P.badRow
      · have HE : Aside (P.legsE L c n = 0) := by show _ = _; rw [P.legsE, if_pos h3, h4, h5]; rfl
        clear h3
        go_enter Tryz.func169, Tryz.ntmps169
        go_wp2_with fail
        refine (HH1.out _ (SlAt.below RRow.mono hl (by go_grown)) (by simp)).mono ?_
        rintro e w1 ⟨rfl, hb1⟩
        rw [h4]
        have hB1 : Below w.heap.size w w1 := bvia (by go_grown) hb1
        go_wp2_with fail
        refine (HH2.out _ w1.heap.size (SlAt.below RRow.mono hl (bvia hB1 (by go_grown))) (cell_func _)).mono ?_
        rintro e w2 ⟨rfl, hb2⟩
        rw [h5]
        go_wp2
        go_ret
        exact ⟨ret_int HE.out.symm, bvia (bvia hB1 (by go_grown)) hb2⟩
      · have HE : Aside (P.legsE L c n = 3) := by show _ = _; rw [P.legsE, if_pos h3, h4, h5]; rfl
        clear h3
        go_enter Tryz.func169, Tryz.ntmps169
        go_wp2_with fail
        refine (HH1.out _ (SlAt.below RRow.mono hl (by go_grown)) (by simp)).mono ?_
        rintro e w1 ⟨rfl, hb1⟩
        rw [h4]
        have hB1 : Below w.heap.size w w1 := bvia (by go_grown) hb1
        go_wp2_with fail
        refine (HH2.out _ w1.heap.size (SlAt.below RRow.mono hl (bvia hB1 (by go_grown))) (cell_func _)).mono ?_
        rintro e w2 ⟨rfl, hb2⟩
        rw [h5]
        go_wp2
        go_ret
        exact ⟨ret_int HE.out.symm, bvia (bvia hB1 (by go_grown)) hb2⟩
    · have HE : Aside (P.legsE L c n = 1) := by show _ = _; rw [P.legsE, if_pos h3, h4]; rfl
      clear h3
      go_enter Tryz.func169, Tryz.ntmps169
      go_wp2_with fail
      refine (HH1.out _ (SlAt.below RRow.mono hl (by go_grown)) (by simp)).mono ?_
      rintro e w1 ⟨rfl, hb1⟩
      rw [h4]
      go_wp2
      go_ret
      exact ⟨ret_int HE.out.symm, bvia (by go_grown) hb1⟩
  · have h3' : ((L.length : Int) != c) = true := by simpa using h3
    have HE : Aside (P.legsE L c n = 1) := by show _ = _; rw [P.legsE, if_neg h3]
    go_enter Tryz.func169, Tryz.ntmps169
    go_wp2
    go_ret
    exact ⟨ret_int HE.out.symm, by go_grown⟩

/-- E1 of bands, behind one of so many days, of such a part. -/
def P.bands : Int → Int → List (Int × Int) → Int
  | _, _, [] => 0
  | d, p, x :: r => if P.btw x.1 0 999 = true ∧ P.btw x.2 0 100 = true then (if x.1 ≤ d ∨ p < x.2 then 4 else P.bands x.1 x.2 r) else 3
def P.bandsE (B : List (Int × Int)) : Int := if B.length ≤ 4 then P.bands (-1) 100 B else 2

/-- A pair in a block of its own. -/
def Two (w : World) (g : Nat) (d p : Int) : Prop := w.rowIs g 143 2 (fun i => if i = 0 then .int .i64 d else .int .i64 p)
theorem Two.new (w : World) (d p : Int) : Two (w.alloc (.cells #[.int .i64 d, .int .i64 p] 143)) w.heap.size d p :=
  ⟨#[.int .i64 d, .int .i64 p], by simpa using heap_alloc_new w (.cells #[.int .i64 d, .int .i64 p] 143), rfl, fun i hi => by match i, hi with | 0, _ => rfl | 1, _ => rfl⟩
theorem Two.alloc {w : World} {g : Nat} {d p : Int} (h : Two w g d p) (o : Obj) : Two (w.alloc o) g d p := by
  have hl := World.rowIs.lt h
  obtain ⟨c, h1, h2, h3⟩ := h
  exact ⟨c, (Below.heap_alloc w o g hl).trans h1, h2, h3⟩
theorem Two.put {w : World} {g : Nat} {d p : Int} (h : Two w g d p) (x y : Int) : Two ((w.setCell ⟨g, 0, none⟩ (.int .i64 x)).setCell ⟨g, 1, none⟩ (.int .i64 y)) g x y :=
  World.rowIs.congr (World.rowIs.set (World.rowIs.set h 0 (.int .i64 x)) 1 (.int .i64 y)) (fun i hi => by match i, hi with | 0, _ => rfl | 1, _ => rfl)

set_option maxHeartbeats 2000000 in
theorem checkBands_any (ao : Option Addr) (cap : Nat) (B : List (Int × Int)) (w : World) (hl : PairsAt w ao cap B) :
    Calls Tryz.prog 171 #[.slice ao B.length cap] w fun e w' => e = .returned (.int .i64 (P.bandsE B)) ∧ Below w.heap.size w w' := by
  have hle := hl.le
  have hmx := hl.max
  unfold maxLen at hmx
  by_cases h4 : 4 < B.length
  · have HE : Aside (P.bandsE B = 2) := by show _ = _; rw [P.bandsE, if_neg (by omega)]
    have h4' : (4 : Int) < B.length := by omega
    go_enter Tryz.func171, Tryz.ntmps171
    go_wp2
    go_ret
    exact ⟨ret_int HE.out.symm, Below.refl _ _⟩
  · have HE : Aside (P.bandsE B = P.bands (-1) 100 B) := by show _ = _; rw [P.bandsE, if_pos (by omega)]
    have h4' : ¬ (4 : Int) < B.length := by omega
    go_enter Tryz.func171, Tryz.ntmps171
    go_wp2
    go_loopg [12] B.length (fun g i wr => ∃ (k : Nat) (d p : Int), k ≤ B.length ∧ g = B.length - k ∧ i = .int .i64 k ∧ P.bands d p (B.drop k) = P.bandsE B ∧ Two wr w.heap.size d p ∧ Below w.heap.size w wr)
    case atStart => exact ⟨0, -1, 100, Nat.zero_le _, rfl, rfl, HE.out.symm, Two.new w _ _, by go_grown⟩
    case round =>
      obtain ⟨k, d, p, hk, rfl, rfl, hP, hT, hB⟩ := hrel
      have HP : Aside (P.bands d p (B.drop k) = P.bandsE B) := hP
      have HT : Aside (Two wr w.heap.size d p) := hT
      have hTl := World.rowIs.lt hT
      have t0 : wr.cell? ⟨w.heap.size, 0, none⟩ = some (.int .i64 d) := World.rowIs.cell hT (i := 0) (by omega)
      have t1 : wr.cell? ⟨w.heap.size, 1, none⟩ = some (.int .i64 p) := World.rowIs.cell hT (i := 1) (by omega)
      have f0 := World.rowIs.frozen hT 0
      have f1 := World.rowIs.frozen hT 1
      clear hP hT HE
      by_cases hlt : k < B.length
      · obtain ⟨b, off, x, y, rfl, hbw, hd, hc0, hc1⟩ := PairsAt.get hl hB k hlt
        rw [hd] at HP
        unfold P.bands at HP
        clear hd
        cases h1 : P.btw x 0 999 <;> cases h2 : P.btw y 0 100
        all_goals simp only [h1, h2, Bool.false_eq_true, false_and, and_false, and_self, if_true, if_false, true_and] at HP
        · go_wp2_with (first
            | (go_at_call 168; refine (within_any _ _ _ _).mono ?_; rintro e w1 ⟨rfl, rfl⟩; rw [h1])
            | (go_at_call 170; refine (isPart_any _ _).mono ?_; rintro e w1 ⟨rfl, rfl⟩; rw [h2]))
          go_ret
          exact ⟨ret_int HP.out, bvia hB (by go_grown)⟩
        · go_wp2_with (first
            | (go_at_call 168; refine (within_any _ _ _ _).mono ?_; rintro e w1 ⟨rfl, rfl⟩; rw [h1])
            | (go_at_call 170; refine (isPart_any _ _).mono ?_; rintro e w1 ⟨rfl, rfl⟩; rw [h2]))
          go_ret
          exact ⟨ret_int HP.out, bvia hB (by go_grown)⟩
        · go_wp2_with (first
            | (go_at_call 168; refine (within_any _ _ _ _).mono ?_; rintro e w1 ⟨rfl, rfl⟩; rw [h1])
            | (go_at_call 170; refine (isPart_any _ _).mono ?_; rintro e w1 ⟨rfl, rfl⟩; rw [h2]))
          go_ret
          exact ⟨ret_int HP.out, bvia hB (by go_grown)⟩
        · by_cases h3 : x ≤ d
          · rw [if_pos (.inl h3)] at HP
            go_wp2_with (first
              | (go_at_call 168; refine (within_any _ _ _ _).mono ?_; rintro e w1 ⟨rfl, rfl⟩; rw [h1])
              | (go_at_call 170; refine (isPart_any _ _).mono ?_; rintro e w1 ⟨rfl, rfl⟩; rw [h2]))
            go_ret
            exact ⟨ret_int HP.out, bvia hB (by go_grown)⟩
          · by_cases h5 : p < y
            · rw [if_pos (.inr h5)] at HP
              go_wp2_with (first
                | (go_at_call 168; refine (within_any _ _ _ _).mono ?_; rintro e w1 ⟨rfl, rfl⟩; rw [h1])
                | (go_at_call 170; refine (isPart_any _ _).mono ?_; rintro e w1 ⟨rfl, rfl⟩; rw [h2]))
              go_ret
              exact ⟨ret_int HP.out, bvia hB (by go_grown)⟩
            · rw [if_neg (by omega)] at HP
              go_wp2_with (first
                | (go_at_call 168; refine (within_any _ _ _ _).mono ?_; rintro e w1 ⟨rfl, rfl⟩; rw [h1])
                | (go_at_call 170; refine (isPart_any _ _).mono ?_; rintro e w1 ⟨rfl, rfl⟩; rw [h2]))
              go_roundg (B.length - (k + 1))
              case measure => omega
              case rel => exact ⟨k + 1, x, y, by omega, rfl, by go_num, HP.out, Two.alloc (Two.put HT.out x y) _, Below.alloc ((hB.setCell (p := ⟨w.heap.size, 0, none⟩) (Nat.le_refl _) _).setCell (p := ⟨w.heap.size, 1, none⟩) (Nat.le_refl _) _) (by simp; omega) _⟩
      · obtain rfl : k = B.length := by omega
        rw [List.drop_of_length_le (Nat.le_refl _), P.bands] at HP
        go_wp2
        go_ret
        exact ⟨ret_int HP.out, hB⟩

end Go.Proofs.YtlamhfbdeinkkaeGreat.Fo
/- Walks of fare.Check, checkPrice, sum, cost, Down. -/
namespace Go.Proofs.YtlamhfbdeinkkaeGreat.Fo
open Go.RowKit
set_option linter.unusedSimpArgs false
set_option linter.unusedVariables false

/-- E1. -/
def P.fareE (L : List (List Int)) (al th : Int) (B : List (Int × Int)) (dn c n : Int) : Int :=
  if P.btw c 1 5 = true ∧ P.btw n 1 7 = true then (if P.legsE L c n = 0 then (if P.btw al 0 200 = true ∧ P.btw th 0 100 = true ∧ P.btw dn 0 100 = true then P.bandsE B else 3) else P.legsE L c n) else 3

/-- Fares in memory: their two lists. -/
structure FareAt (w : World) (lo bo : Option Addr) (lc bc : Nat) (L : List (List Int)) (B : List (Int × Int)) : Prop where
  legs : RowsAt w lo lc L
  bands : PairsAt w bo bc B
theorem FareAt.below {w w' : World} {lo bo : Option Addr} {lc bc : Nat} {L : List (List Int)} {B : List (Int × Int)} (h : FareAt w lo bo lc bc L B) (hb : Below w.heap.size w w') : FareAt w' lo bo lc bc L B :=
  ⟨SlAt.below RRow.mono h.legs hb, SlAt.below RPair.mono h.bands hb⟩
abbrev V.fare (lo bo : Option Addr) (lc bc : Nat) (L : List (List Int)) (al th : Int) (B : List (Int × Int)) (dn : Int) : Value :=
  .agg #[.slice lo L.length lc, .int .i64 al, .int .i64 th, .slice bo B.length bc, .int .i64 dn]

set_option maxHeartbeats 2000000 in
theorem fareCheck_any (lo bo : Option Addr) (lc bc : Nat) (L : List (List Int)) (al th : Int) (B : List (Int × Int)) (dn c n : Int) (w : World) (hf : FareAt w lo bo lc bc L B) :
    Calls Tryz.prog 105 #[V.fare lo bo lc bc L al th B dn, .int .i64 c, .int .i64 n] w fun e w' => e = .returned (.int .i64 (P.fareE L al th B dn c n)) ∧ Below w.heap.size w w' := by
  cases h1 : P.btw c 1 5 <;> cases h2 : P.btw n 1 7
  · have HE : Aside (P.fareE L al th B dn c n = 3) := by show _ = _; simp [P.fareE, h1, h2]
    go_enter Tryz.func105, Tryz.ntmps105
    go_wp2_with (go_at_call 168; refine (within_any _ _ _ _).mono ?_; rintro e w1 ⟨rfl, rfl⟩; first | rw [h1] | rw [h2])
    go_ret
    exact ⟨ret_int HE.out.symm, by go_grown⟩
  · have HE : Aside (P.fareE L al th B dn c n = 3) := by show _ = _; simp [P.fareE, h1, h2]
    go_enter Tryz.func105, Tryz.ntmps105
    go_wp2_with (go_at_call 168; refine (within_any _ _ _ _).mono ?_; rintro e w1 ⟨rfl, rfl⟩; first | rw [h1] | rw [h2])
    go_ret
    exact ⟨ret_int HE.out.symm, by go_grown⟩
  · have HE : Aside (P.fareE L al th B dn c n = 3) := by show _ = _; simp [P.fareE, h1, h2]
    go_enter Tryz.func105, Tryz.ntmps105
    go_wp2_with (go_at_call 168; refine (within_any _ _ _ _).mono ?_; rintro e w1 ⟨rfl, rfl⟩; first | rw [h1] | rw [h2])
    go_ret
    exact ⟨ret_int HE.out.symm, by go_grown⟩
  · cases hz : (P.legsE L c n != 0)
    · have hz' : P.legsE L c n = 0 := by simpa using hz
      cases h3 : P.btw al 0 200 <;> cases h4 : P.btw th 0 100 <;> cases h5 : P.btw dn 0 100
      all_goals
        have HE : Aside (P.fareE L al th B dn c n = if P.btw al 0 200 = true ∧ P.btw th 0 100 = true ∧ P.btw dn 0 100 = true then P.bandsE B else 3) := by show _ = _; simp [P.fareE, h1, h2, hz']
        simp only [h3, h4, h5, Bool.false_eq_true, false_and, and_false, and_self, if_true, if_false, true_and] at HE
        clear hz'
        go_enter Tryz.func105, Tryz.ntmps105
        go_wp2_with (first
          | (go_at_call 168; refine (within_any _ _ _ _).mono ?_; rintro e w1 ⟨rfl, rfl⟩; first | rw [h1] | rw [h2] | rw [h3])
          | (go_at_call 170; refine (isPart_any _ _).mono ?_; rintro e w1 ⟨rfl, rfl⟩; first | rw [h4] | rw [h5])
          | (go_at_call 169; refine (checkLegs_any _ _ _ _ _ _ (SlAt.below RRow.mono hf.legs (by go_grown))).mono ?_; rintro e w2 ⟨rfl, hb2⟩; have c1 : w2.cell? ⟨w.heap.size, 1, none⟩ = some (.int .i64 al) := cellIn hb2 (by simp); have c2 : w2.cell? ⟨w.heap.size, 2, none⟩ = some (.int .i64 th) := cellIn hb2 (by simp); have c3 : w2.cell? ⟨w.heap.size, 3, none⟩ = some (.slice bo B.length bc) := cellIn hb2 (by simp); have c4 : w2.cell? ⟨w.heap.size, 4, none⟩ = some (.int .i64 dn) := cellIn hb2 (by simp); have hB2 : Below w.heap.size w w2 := bvia (by go_grown) hb2)
          | (go_at_call 171; refine (checkBands_any _ _ _ _ (SlAt.below RPair.mono hf.bands hB2)).mono ?_; rintro e w3 ⟨rfl, hb3⟩))
        go_ret
        first | exact ⟨ret_int HE.out.symm, bvia hB2 hb3⟩ | exact ⟨ret_int HE.out.symm, hB2⟩
    · have HE : Aside (P.fareE L al th B dn c n = P.legsE L c n) := by show _ = _; rw [P.fareE, if_pos ⟨h1, h2⟩, if_neg (by simpa using hz)]
      go_enter Tryz.func105, Tryz.ntmps105
      go_wp2_with (first
        | (go_at_call 168; refine (within_any _ _ _ _).mono ?_; rintro e w1 ⟨rfl, rfl⟩; first | rw [h1] | rw [h2])
        | (go_at_call 169; refine (checkLegs_any _ _ _ _ _ _ (SlAt.below RRow.mono hf.legs (by go_grown))).mono ?_; rintro e w2 ⟨rfl, hb2⟩))
      go_ret
      exact ⟨ret_int HE.out.symm, bvia (by go_grown) hb2⟩

/-- What of fares is right. -/
theorem fareE_zero {L : List (List Int)} {al th : Int} {B : List (Int × Int)} {dn c n : Int} (h : P.fareE L al th B dn c n = 0) :
    (1 ≤ c ∧ c ≤ 5) ∧ (1 ≤ n ∧ n ≤ 7) ∧ (L.length : Int) = c ∧ (∀ r ∈ L, (r.length : Int) = n ∧ ∀ x ∈ r, 0 ≤ x ∧ x ≤ 100000) ∧ (0 ≤ al ∧ al ≤ 200) ∧ (0 ≤ th ∧ th ≤ 100) ∧ (0 ≤ dn ∧ dn ≤ 100) ∧ P.bandsE B = 0 := by
  unfold P.fareE at h
  split at h
  · rename_i h1
    split at h
    · rename_i h2
      split at h
      · rename_i h3
        simp only [P.btw, Bool.and_eq_true, decide_eq_true_eq] at h1 h3
        unfold P.legsE at h2
        split at h2
        · rename_i h4
          split at h2
          · omega
          · rename_i h5
            split at h2
            · omega
            · rename_i h6
              refine ⟨h1.1, h1.2, h4, fun r hr => ⟨?_, fun x hx => ?_⟩, h3.1, h3.2.1, h3.2.2, h⟩
              · have h5' := (Bool.not_eq_true _).mp h5
                rw [List.any_eq_false] at h5'
                have := h5' r hr
                simpa using this
              · have h6' := (Bool.not_eq_true _).mp h6
                rw [List.any_eq_false] at h6'
                have := h6' r hr
                rw [P.badRow, Bool.not_eq_true, List.any_eq_false] at this
                have := this x hx
                simpa [P.btw] using this
        · omega
      · omega
    · omega
  · omega

def P.tot : List Int → Int
  | [] => 0
  | x :: r => x + P.tot r
theorem tot_in {l : List Int} {m : Nat} (h : ∀ x ∈ l, 0 ≤ x ∧ x ≤ 100000) (hm : l.length ≤ m) : 0 ≤ P.tot l ∧ P.tot l ≤ 100000 * m := by
  induction l generalizing m with
  | nil => simp [P.tot]; omega
  | cons x l ih =>
    have h1 := h x (by simp)
    simp at hm
    have h2 := @ih (m - 1) (fun y hy => h y (by simp [hy])) (by omega)
    simp only [P.tot]
    omega

set_option maxHeartbeats 1000000 in
theorem sum_any (ao : Option Addr) (cap : Nat) (l : List Int) (w : World) (hl : IntsAt w ao cap l) (hx : ∀ x ∈ l, 0 ≤ x ∧ x ≤ 100000) (hlen : l.length ≤ 7) :
    Calls Tryz.prog 205 #[.slice ao l.length cap] w fun e w' => e = .returned (.int .i64 (P.tot l)) ∧ w = w' := by
  have hle := hl.le
  have hmx := hl.max
  unfold maxLen at hmx
  have HX : Aside (∀ x ∈ l, 0 ≤ x ∧ x ≤ 100000) := hx
  clear hx
  go_enter Tryz.func205, Tryz.ntmps205
  go_wp2
  go_loopg [3, 8] l.length (fun g a i wr => ∃ (k : Nat) (s : Int), k ≤ l.length ∧ g = l.length - k ∧ i = .int .i64 k ∧ a = .int .i64 s ∧ s + P.tot (l.drop k) = P.tot l ∧ 0 ≤ s ∧ s ≤ k * 100000 ∧ wr = w)
  case atStart => exact ⟨0, 0, Nat.zero_le _, rfl, rfl, rfl, by simp, by omega, by omega, rfl⟩
  case round =>
    obtain ⟨k, s, hk, rfl, rfl, rfl, hP, hs0, hs1, rfl⟩ := hrel
    have HP : Aside (s + P.tot (l.drop k) = P.tot l) := hP
    clear hP
    by_cases hlt : k < l.length
    · obtain ⟨b, off, x, rfl, hbw, hd, hc0⟩ := hl.get (Below.refl _ _) k hlt
      have hx := HX.out x (memA hlt hd)
      have HP' : Aside (s + x + P.tot (l.drop (k + 1)) = P.tot l) := by
        have := HP.out
        rw [hd, P.tot] at this
        show _ = _
        omega
      clear hd HP
      go_wp2
      go_roundg (l.length - (k + 1))
      case measure => omega
      case rel => exact ⟨k + 1, s + x, by omega, rfl, by go_num, rfl, HP'.out, by omega, by omega, rfl⟩
    · obtain rfl : k = l.length := by omega
      have h := HP.out
      rw [List.drop_of_length_le (Nat.le_refl _), P.tot] at h
      have HQ : Aside (s = P.tot l) := by show _ = _; omega
      clear HP h
      go_wp2
      go_ret
      exact ⟨ret_int HQ.out, rfl⟩

theorem mul_in {a b m n : Int} (ha : 0 ≤ a ∧ a ≤ m) (hb : 0 ≤ b ∧ b ≤ n) : 0 ≤ a * b ∧ a * b ≤ m * n :=
  ⟨Int.mul_nonneg ha.1 hb.1, Int.mul_le_mul ha.2 hb.2 hb.1 (Int.le_trans ha.1 ha.2)⟩

/-- E2: what so many guests pay, the sum of the legs being s. -/
def P.cost (al th s g : Int) : Int := if g = 1 then s + P.part s al else 2 * s + (g - 2) * P.part s th
theorem part_in {a h m : Int} (ha : 0 ≤ a ∧ a ≤ m) (hh : 0 ≤ h ∧ h ≤ 100) : 0 ≤ P.part a h ∧ P.part a h ≤ m := by
  have h1 := mul_in ha hh
  have h2 : a * h ≤ a * 100 := Int.mul_le_mul_of_nonneg_left hh.2 ha.1
  unfold P.part
  omega
theorem part_in2 {a h m : Int} (ha : 0 ≤ a ∧ a ≤ m) (hh : 0 ≤ h ∧ h ≤ 200) : 0 ≤ P.part a h ∧ P.part a h ≤ 2 * m := by
  have h1 := mul_in ha hh
  have h2 : a * h ≤ a * 200 := Int.mul_le_mul_of_nonneg_left hh.2 ha.1
  unfold P.part
  omega

set_option maxHeartbeats 1000000 in
theorem cost_any (lo bo : Option Addr) (lc bc : Nat) (L : List (List Int)) (al th : Int) (B : List (Int × Int)) (dn s g : Int) (w : World)
    (hs : 0 ≤ s ∧ s ≤ 700000) (hal : 0 ≤ al ∧ al ≤ 200) (hth : 0 ≤ th ∧ th ≤ 100) (hg : 1 ≤ g ∧ g ≤ 4) :
    Calls Tryz.prog 204 #[V.fare lo bo lc bc L al th B dn, .int .i64 s, .int .i64 g] w fun e w' => e = .returned (.int .i64 (P.cost al th s g)) ∧ Below w.heap.size w w' := by
  have m1 := mul_in hs hal
  have m2 := mul_in hs hth
  have p1 := part_in2 hs hal
  have p2 := part_in hs hth
  by_cases h1 : g = 1
  · have HC : Aside (P.cost al th s g = s + P.part s al) := by show _ = _; rw [P.cost, if_pos h1]
    have h1' : (g == 1) = true := by simpa using h1
    clear h1
    go_enter Tryz.func204, Tryz.ntmps204
    go_wp2_with (go_at_call 183; refine (part_any _ _ _ (by omega) (by omega)).mono ?_; rintro e w1 ⟨rfl, rfl⟩)
    go_ret
    exact ⟨ret_int HC.out.symm, by go_grown⟩
  · have HC : Aside (P.cost al th s g = 2 * s + (g - 2) * P.part s th) := by show _ = _; rw [P.cost, if_neg h1]
    have h1' : (g == 1) = false := by simpa using h1
    have m3 := mul_in (a := g - 2) (m := 2) (by omega) p2
    go_enter Tryz.func204, Tryz.ntmps204
    go_wp2_with (go_at_call 183; refine (part_any _ _ _ (by omega) (by omega)).mono ?_; rintro e w1 ⟨rfl, rfl⟩)
    go_ret
    exact ⟨ret_int HC.out.symm, by go_grown⟩

def P.fareP (L : List (List Int)) (al th : Int) (B : List (Int × Int)) (dn c n p : Int) : Int := if P.fareE L al th B dn c n = 0 then (if P.btw p 0 100000000 = true then 0 else 3) else P.fareE L al th B dn c n

theorem ret2_ii {a b a' b' : Int} (h : a = a') (k : b = b') : Ending.returned (.tuple #[.int .i64 a, .int .i64 b]) = .returned (.tuple #[.int .i64 a', .int .i64 b']) := by rw [h, k]

end Go.Proofs.YtlamhfbdeinkkaeGreat.Fo
/- Walks of IndexFunc over bands, Penalty, Price. -/
namespace Go.Proofs.YtlamhfbdeinkkaeGreat.Fo
open Go.RowKit
set_option linter.unusedSimpArgs false
set_option linter.unusedVariables false

section
variable {α : Type} {l : List α} {p : α → Bool} {k : Nat} {x : α}
theorem find_hit (hP : (l.drop k).find? p = l.find? p) (hD : l.drop k = x :: l.drop (k + 1)) (h : p x = true) : l.find? p = some x := by
  rw [hD, List.find?_cons, h] at hP
  exact hP.symm
theorem find_on (hP : (l.drop k).find? p = l.find? p) (hD : l.drop k = x :: l.drop (k + 1)) (h : p x = false) : (l.drop (k + 1)).find? p = l.find? p := by
  rw [hD, List.find?_cons, h] at hP
  exact hP
theorem find_none (hP : (l.drop l.length).find? p = l.find? p) : l.find? p = none := by
  rw [List.drop_of_length_le (Nat.le_refl _)] at hP
  simpa using hP.symm
end

/-- E2: the band that tells, of one who cancels d days ahead. -/
def P.band (B : List (Int × Int)) (d : Int) : Option (Int × Int) := B.find? (fun x => decide (d ≤ x.1))
def P.penV (B : List (Int × Int)) (p d : Int) : Int := match P.band B d with | none => 0 | some x => P.part p x.2
def P.penE (L : List (List Int)) (al th : Int) (B : List (Int × Int)) (dn c n p d : Int) : Int := if P.fareP L al th B dn c n p = 0 then (if d < 0 then 3 else 0) else P.fareP L al th B dn c n p
def P.pen (L : List (List Int)) (al th : Int) (B : List (Int × Int)) (dn c n p d : Int) : Int := if P.penE L al th B dn c n p d = 0 then P.penV B p d else 0

end Go.Proofs.YtlamhfbdeinkkaeGreat.Fo
/- Walk of Price. -/
namespace Go.Proofs.YtlamhfbdeinkkaeGreat.Fo
open Go.RowKit
set_option linter.unusedSimpArgs false
set_option linter.unusedVariables false

theorem Tryz.sizeInt : (Tryz.prog.info? 3).map (fun i => i.size) = some 1 := by kernel_rfl
theorem run_sizeInt (wx : World) : (sizeOf 3).run Tryz.prog wx = .ok 1 wx := by
  have h := Tryz.sizeInt
  cases hi : Tryz.prog.info? 3 with
  | none => rw [hi] at h; cases h
  | some i =>
    rw [hi] at h
    simp only [Option.map_some, Option.some.injEq] at h
    simp [sizeOf, typeInfo, hi, h]

/-- where 'l[f:t]' begins -/
def midAt (ao : Option Addr) (cap f : Nat) : Option Addr := if cap = f then ao else ao.map fun x => x.add f
/-- 'l[f:t]' -/
theorem run_mid (ao : Option Addr) (n cap f t : Nat) (hf : f ≤ t) (ht : t ≤ cap) (wx : World) : (Instr.slice 47 (.slice ao n cap) (some (.int .i64 (f : Int))) (some (.int .i64 (t : Int))) none).run Tryz.prog wx = .ok (.slice (midAt ao cap f) (t - f) (cap - f)) wx := by
  simp [Instr.slice, run_underlying Tryz.underlying47, Instr.sliceBounds, Instr.sliceBound, asIntOf, run_sizeInt, hf, ht, midAt]

def P.seg (l : List Int) (f t : Nat) : List Int := (l.drop f).take (t - f)
theorem seg_len {l : List Int} {f t : Nat} (hf : f ≤ t) (ht : t ≤ l.length) : (P.seg l f t).length = t - f := by simp [P.seg]; omega
theorem seg_mem {l : List Int} {f t : Nat} {x : Int} (h : x ∈ P.seg l f t) : x ∈ l := List.mem_of_mem_drop (List.mem_of_mem_take h)

theorem IntsAt.mid {w : World} {ao : Option Addr} {cap : Nat} {l : List Int} (h : IntsAt w ao cap l) {f t : Nat} (hf : f ≤ t) (ht : t ≤ l.length) : IntsAt w (midAt ao cap f) (cap - f) (P.seg l f t) := by
  have hle := h.le
  have hmx := h.max
  refine ⟨by rw [seg_len hf ht]; omega, by omega, fun hn => ?_, fun h0 => ?_⟩
  · have : ao = none := by
      unfold midAt at hn
      split at hn
      · exact hn
      · simpa using hn
    have := h.nil this
    omega
  · rw [seg_len hf ht] at h0
    obtain ⟨b, off, rfl, hlt, hc⟩ := h.cells (by omega)
    refine ⟨b, off + f, ?_, hlt, fun i hi => ?_⟩
    · unfold midAt
      rw [if_neg (by omega)]
      simp only [Option.map_some]
      rw [Go.WideShapes.add_plain]
    · rw [seg_len hf ht] at hi
      obtain ⟨cs, h1, h2, h3⟩ := hc (f + i) (by omega)
      refine ⟨cs, ?_, h2, fun j u hj => ?_⟩
      · have e : (P.seg l f t)[i]'(by rw [seg_len hf ht]; omega) = l[f + i] := by simp [P.seg]
        rw [e]
        exact h1
      · have := h3 j u hj
        rw [show off + f + i * 1 + j = off + (f + i) * 1 + j by omega]
        exact this

/-- The sum of a category's legs of a span. -/
def P.legSum (L : List (List Int)) (k f t : Int) : Int := P.tot (P.seg (L.getD k.toNat []) f.toNat t.toNat)
def P.priceE (L : List (List Int)) (al th : Int) (B : List (Int × Int)) (dn c n k f t g : Int) : Int :=
  if P.fareE L al th B dn c n = 0 then (if P.btw k 0 (c - 1) = true then (if P.chk f t n = 0 then (if P.btw g 1 4 = true then 0 else 3) else P.chk f t n) else 3) else P.fareE L al th B dn c n
def P.price (L : List (List Int)) (al th : Int) (B : List (Int × Int)) (dn c n k f t g : Int) : Int :=
  if P.priceE L al th B dn c n k f t g = 0 then P.cost al th (P.legSum L k f t) g else 0

theorem priceE_zero {L : List (List Int)} {al th : Int} {B : List (Int × Int)} {dn c n k f t g : Int} (h : P.priceE L al th B dn c n k f t g = 0) :
    P.fareE L al th B dn c n = 0 ∧ (0 ≤ k ∧ k < c) ∧ P.chk f t n = 0 ∧ (1 ≤ g ∧ g ≤ 4) := by
  unfold P.priceE at h
  split at h
  · rename_i h1
    split at h
    · rename_i h2
      split at h
      · rename_i h3
        split at h
        · rename_i h4
          simp only [P.btw, Bool.and_eq_true, decide_eq_true_eq] at h2 h4
          exact ⟨h1, ⟨h2.1, by omega⟩, h3, h4⟩
        · omega
      · contradiction
    · omega
  · contradiction

theorem legSum_in {L : List (List Int)} {al th : Int} {B : List (Int × Int)} {dn c n : Int} (h : P.fareE L al th B dn c n = 0) {k : Int} (hk : 0 ≤ k ∧ k < c) {f t : Int} (hc : P.chk f t n = 0) : 0 ≤ P.legSum L k f t ∧ P.legSum L k f t ≤ 700000 := by
  obtain ⟨_, _, h3, h4, _⟩ := fareE_zero h
  obtain ⟨c1, c2, c3, c4, _, _⟩ := chk_zero hc
  have hkl : k.toNat < L.length := by omega
  have hr : L.getD k.toNat [] ∈ L := by
    rw [List.getD_eq_getElem?_getD, List.getElem?_eq_getElem hkl]
    exact List.getElem_mem hkl
  obtain ⟨r1, r2⟩ := h4 _ hr
  have := tot_in (l := P.seg (L.getD k.toNat []) f.toNat t.toNat) (m := 7) (fun x hx => r2 x (seg_mem hx)) (by rw [seg_len (by omega) (by omega)]; omega)
  unfold P.legSum
  omega

set_option maxHeartbeats 2000000 in
theorem price_any (lo bo : Option Addr) (lc bc : Nat) (L : List (List Int)) (al th : Int) (B : List (Int × Int)) (dn c n k f t g : Int) (w : World) (hf : FareAt w lo bo lc bc L B) :
    Calls Tryz.prog 161 #[V.fare lo bo lc bc L al th B dn, .int .i64 c, .int .i64 n, .int .i64 k, .agg #[.int .i64 f, .int .i64 t], .int .i64 g] w fun e w' => e = .returned (.tuple #[.int .i64 (P.price L al th B dn c n k f t g), .int .i64 (P.priceE L al th B dn c n k f t g)]) ∧ Below w.heap.size w w' := by
  have hle := hf.legs.le
  have hmx := hf.legs.max
  unfold maxLen at hmx
  cases hz : (P.fareE L al th B dn c n != 0)
  · have hz' : P.fareE L al th B dn c n = 0 := by simpa using hz
    obtain ⟨k1, k2, k3, k4, k5, k6, k7, _⟩ := fareE_zero hz'
    have HL : Aside (∀ r ∈ L, (r.length : Int) = n ∧ ∀ x ∈ r, 0 ≤ x ∧ x ≤ 100000) := k4
    have HLc : Aside ((L.length : Int) = c) := k3
    clear k4 k3
    cases h1 : P.btw k 0 (c - 1)
    · have HE : Aside (P.priceE L al th B dn c n k f t g = 3) := by show _ = _; rw [P.priceE, if_pos hz', h1]; rfl
      have HV : Aside (P.price L al th B dn c n k f t g = 0) := by show _ = _; rw [P.price, if_neg (by rw [HE.out]; omega)]
      clear hz'
      go_enter Tryz.func161, Tryz.ntmps161
      go_wp2_with (first
        | (go_at_call 105; refine (fareCheck_any _ _ _ _ _ _ _ _ _ _ _ _ (hf.below (by go_grown))).mono ?_; rintro e w1 ⟨rfl, hb1⟩)
        | (go_at_call 168; refine (within_any _ _ _ _).mono ?_; rintro e w2 ⟨rfl, rfl⟩; rw [h1]))
      go_ret2
      exact ⟨ret2_ii HV.out.symm HE.out.symm, bvia (by go_grown) hb1⟩
    · cases hc : (P.chk f t n != 0)
      · have hc' : P.chk f t n = 0 := by simpa using hc
        cases h2 : P.btw g 1 4
        · have HE : Aside (P.priceE L al th B dn c n k f t g = 3) := by show _ = _; rw [P.priceE, if_pos hz', if_pos h1, if_pos hc', h2]; rfl
          have HV : Aside (P.price L al th B dn c n k f t g = 0) := by show _ = _; rw [P.price, if_neg (by rw [HE.out]; omega)]
          clear hz' hc'
          go_enter Tryz.func161, Tryz.ntmps161
          go_wp2_with (first
            | (go_at_call 105; refine (fareCheck_any _ _ _ _ _ _ _ _ _ _ _ _ (hf.below (by go_grown))).mono ?_; rintro e w1 ⟨rfl, hb1⟩; have c5 : w1.cell? ⟨w.heap.size + 1, 0, none⟩ = some (.int .i64 f) := cellIn hb1 (by simp); have c6 : w1.cell? ⟨w.heap.size + 1, 1, none⟩ = some (.int .i64 t) := cellIn hb1 (by simp))
            | (go_at_call 168; refine (within_any _ _ _ _).mono ?_; rintro e w2 ⟨rfl, rfl⟩; first | rw [h1] | rw [h2])
            | (go_at_call 58; refine (check_any _ _ _ _).mono ?_; rintro e w3 ⟨rfl, hb3⟩))
          go_ret2
          exact ⟨ret2_ii HV.out.symm HE.out.symm, bvia (bvia (by go_grown) hb1) hb3⟩
        · have HE : Aside (P.priceE L al th B dn c n k f t g = 0) := by show _ = _; rw [P.priceE, if_pos hz', if_pos h1, if_pos hc', if_pos h2]
          have HV : Aside (P.price L al th B dn c n k f t g = P.cost al th (P.legSum L k f t) g) := by show _ = _; rw [P.price, if_pos HE.out]
          obtain ⟨_, kk, _, kg⟩ := priceE_zero HE.out
          have hs := legSum_in hz' kk hc'
          obtain ⟨s1, s2, s3, _, _, _⟩ := chk_zero hc'
          clear hz' hc'
          obtain ⟨K, rfl⟩ : ∃ K : Nat, k = K := ⟨k.toNat, by omega⟩
          obtain ⟨f, rfl⟩ : ∃ F : Nat, f = F := ⟨f.toNat, by omega⟩
          obtain ⟨t, rfl⟩ : ∃ T : Nat, t = T := ⟨t.toNat, by omega⟩
          have hKl : K < L.length := by have := HLc.out; omega
          have hi1 : (K : Int) < (L.length : Int) := by omega
          go_enter Tryz.func161, Tryz.ntmps161
          go_wp2_with (first
            | (go_at_call 105; refine (fareCheck_any _ _ _ _ _ _ _ _ _ _ _ _ (hf.below (by go_grown))).mono ?_; rintro e w1 ⟨rfl, hb1⟩; have c5 : w1.cell? ⟨w.heap.size + 1, 0, none⟩ = some (.int .i64 f) := cellIn hb1 (by simp); have c6 : w1.cell? ⟨w.heap.size + 1, 1, none⟩ = some (.int .i64 t) := cellIn hb1 (by simp); have q0 : w1.cell? ⟨w.heap.size, 0, none⟩ = some (.slice lo L.length lc) := cellIn hb1 (by simp); have q1 : w1.cell? ⟨w.heap.size, 1, none⟩ = some (.int .i64 al) := cellIn hb1 (by simp); have q2 : w1.cell? ⟨w.heap.size, 2, none⟩ = some (.int .i64 th) := cellIn hb1 (by simp); have q3 : w1.cell? ⟨w.heap.size, 3, none⟩ = some (.slice bo B.length bc) := cellIn hb1 (by simp); have q4 : w1.cell? ⟨w.heap.size, 4, none⟩ = some (.int .i64 dn) := cellIn hb1 (by simp); have hB1 : Below w.heap.size w w1 := bvia (by go_grown) hb1)
            | (go_at_call 168; refine (within_any _ _ _ _).mono ?_; rintro e w2 ⟨rfl, rfl⟩; first | rw [h1] | rw [h2])
            | (go_at_call 58; refine (check_any _ _ _ _).mono ?_; rintro e w3 ⟨rfl, hb3⟩; have hB3 := bvia hB1 hb3))
          obtain ⟨b, off, r, ro, rc, rfl, hbw, hd, hc0, hr⟩ := RowsAt.get hf.legs hB3 K hKl
          have hrm := HL.out r (memA hKl hd)
          have hLS : P.legSum L K f t = P.tot (P.seg r f t) := by
            have := getA hKl hd
            simp [P.legSum, hKl, this]
          have hrl : t ≤ r.length := by omega
          have hft : f ≤ t := by omega
          have hrle := hr.le
          have hmid := run_mid ro r.length rc f t hft (by omega)
          have hsl := seg_len (l := r) hft hrl
          have HSX : Aside (∀ x ∈ P.seg r f t, 0 ≤ x ∧ x ≤ 100000) := fun x hx => hrm.2 x (seg_mem hx)
          have HSm : Aside (∀ W : World, Below w3.heap.size w3 W → Calls Tryz.prog 205 #[.slice (midAt ro rc f) (t - f) (rc - f)] W fun e w' => e = .returned (.int .i64 (P.legSum L K f t)) ∧ Below W.heap.size W w') := fun W hW => by
            have := sum_any (midAt ro rc f) (rc - f) (P.seg r f t) W (IntsAt.mid (SlAt.below RInt.mono hr hW) hft hrl) HSX.out (by omega)
            rw [hsl] at this
            rw [hLS]
            exact this.mono fun e w' ⟨he, hw⟩ => ⟨he, by subst hw; exact Below.refl _ _⟩
          have HCo : Aside (∀ W : World, Calls Tryz.prog 204 #[V.fare (some ⟨b, off, none⟩) bo lc bc L al th B dn, .int .i64 (P.legSum L K f t), .int .i64 g] W fun e w' => e = .returned (.int .i64 (P.cost al th (P.legSum L K f t) g)) ∧ Below W.heap.size W w') := fun W => cost_any _ _ _ _ _ _ _ _ _ _ _ W hs k5 k6 kg
          have r5 := cell_regrown (cellIn hb3 c5)
          have r6 := cell_regrown (cellIn hb3 c6)
          have r0 := cell_regrown (cellIn hb3 q0)
          have r1 := cell_regrown (cellIn hb3 q1)
          have r2 := cell_regrown (cellIn hb3 q2)
          have r3 := cell_regrown (cellIn hb3 q3)
          have r4 := cell_regrown (cellIn hb3 q4)
          have r7 := cell_regrown hc0
          clear hr hLS hd c5 c6 q0 q1 q2 q3 q4 hsl hrm hc0
          go_wp2
          refine wp_region_quiet_below (by kernel_rfl) (by kernel_rfl) ?_
          repeat (quiet_step (first | (go_at_call 205; exact Calls.regrown_of (HSm.out _ (below_regrown _ _ _))) | (go_at_call 204; exact Calls.regrown_of (HCo.out _))))
          refine wpQuiet_nil ?_
          intro w5 hw5
          obtain ⟨⟨dq, osq⟩, hw5⟩ := hw5
          have hb5 := below_regrown w3 dq osq
          rw [← hw5] at hb5
          clear hw5 r0 r1 r2 r3 r4 r5 r6 r7
          go_wp2
          go_ret2
          exact ⟨ret2_ii HV.out.symm HE.out.symm, bvia hB3 hb5⟩
      · have HE : Aside (P.priceE L al th B dn c n k f t g = P.chk f t n) := by show _ = _; rw [P.priceE, if_pos hz', if_pos h1, if_neg (by simpa using hc)]
        have HV : Aside (P.price L al th B dn c n k f t g = 0) := by show _ = _; rw [P.price, if_neg (by rw [HE.out]; simpa using hc)]
        clear hz'
        go_enter Tryz.func161, Tryz.ntmps161
        go_wp2_with (first
          | (go_at_call 105; refine (fareCheck_any _ _ _ _ _ _ _ _ _ _ _ _ (hf.below (by go_grown))).mono ?_; rintro e w1 ⟨rfl, hb1⟩; have c5 : w1.cell? ⟨w.heap.size + 1, 0, none⟩ = some (.int .i64 f) := cellIn hb1 (by simp); have c6 : w1.cell? ⟨w.heap.size + 1, 1, none⟩ = some (.int .i64 t) := cellIn hb1 (by simp))
          | (go_at_call 168; refine (within_any _ _ _ _).mono ?_; rintro e w2 ⟨rfl, rfl⟩; rw [h1])
          | (go_at_call 58; refine (check_any _ _ _ _).mono ?_; rintro e w3 ⟨rfl, hb3⟩))
        go_ret2
        exact ⟨ret2_ii HV.out.symm HE.out.symm, bvia (bvia (by go_grown) hb1) hb3⟩
  · have HE : Aside (P.priceE L al th B dn c n k f t g = P.fareE L al th B dn c n) := by show _ = _; rw [P.priceE, if_neg (by simpa using hz)]
    have HV : Aside (P.price L al th B dn c n k f t g = 0) := by show _ = _; rw [P.price, if_neg (by rw [HE.out]; simpa using hz)]
    go_enter Tryz.func161, Tryz.ntmps161
    go_wp2_with (go_at_call 105; refine (fareCheck_any _ _ _ _ _ _ _ _ _ _ _ _ (hf.below (by go_grown))).mono ?_; rintro e w1 ⟨rfl, hb1⟩)
    go_ret2
    exact ⟨ret2_ii HV.out.symm HE.out.symm, bvia (by go_grown) hb1⟩

end Go.Proofs.YtlamhfbdeinkkaeGreat.Fo
/- Walks of table, fareBegun. -/
namespace Go.Proofs.YtlamhfbdeinkkaeGreat.Fo
open Go.RowKit
set_option linter.unusedSimpArgs false
set_option linter.unusedVariables false

def T.L : List (List Int) := [[100, 200, 301], [150, 250, 350], [500, 500, 500]]
def T.B : List (Int × Int) := [(7, 100), (30, 50)]
abbrev tableObjs (n : Nat) : List Obj := [
  .cells #[.slice (some ⟨n + 1 + 1 + 1 + 1, 0, none⟩) 3 3, .int .i64 50, .int .i64 33, .slice (some ⟨n + 1 + 1 + 1 + 1 + 1, 0, none⟩) 2 2, .int .i64 20] 29,
  .cells #[.int .i64 100, .int .i64 200, .int .i64 301] 3, .cells #[.int .i64 150, .int .i64 250, .int .i64 350] 3, .cells #[.int .i64 500, .int .i64 500, .int .i64 500] 3,
  .cells #[.slice (some ⟨n + 1, 0, none⟩) 3 3, .slice (some ⟨n + 1 + 1, 0, none⟩) 3 3, .slice (some ⟨n + 1 + 1 + 1, 0, none⟩) 3 3] 47,
  .cells #[.int .i64 7, .int .i64 100, .int .i64 30, .int .i64 50] 143]

theorem ints3 {w : World} {b : Nat} {a x c : Int} (h : w.heap[b]? = some (.cells #[.int .i64 a, .int .i64 x, .int .i64 c] 3)) : IntsAt w (some ⟨b, 0, none⟩) 3 [a, x, c] :=
  SlAt.ofBlock [[.int .i64 a], [.int .i64 x], [.int .i64 c]] (l := [a, x, c]) h rfl rfl (fun i hi => by have hi : i < 3 := hi; match i, hi with | 0, _ => exact ⟨_, rfl, rfl⟩ | 1, _ => exact ⟨_, rfl, rfl⟩ | 2, _ => exact ⟨_, rfl, rfl⟩) (by simp) (by simp [maxLen])

end Go.Proofs.YtlamhfbdeinkkaeGreat.Fo
/- Walks of the laws FarePenalty and FareParts. -/
namespace Go.Proofs.YtlamhfbdeinkkaeGreat.Fo
open Go.RowKit
set_option linter.unusedSimpArgs false
set_option linter.unusedVariables false

/-- Fares, a span, each in a block of its own. -/
structure FBox (w : World) (g : Nat) (lo bo : Option Addr) (lc bc : Nat) (L : List (List Int)) (al th : Int) (B : List (Int × Int)) (dn : Int) : Prop where
  c0 : w.cell? ⟨g, 0, none⟩ = some (.slice lo L.length lc)
  c1 : w.cell? ⟨g, 1, none⟩ = some (.int .i64 al)
  c2 : w.cell? ⟨g, 2, none⟩ = some (.int .i64 th)
  c3 : w.cell? ⟨g, 3, none⟩ = some (.slice bo B.length bc)
  c4 : w.cell? ⟨g, 4, none⟩ = some (.int .i64 dn)
structure SBox (w : World) (g : Nat) (f t : Int) : Prop where
  c0 : w.cell? ⟨g, 0, none⟩ = some (.int .i64 f)
  c1 : w.cell? ⟨g, 1, none⟩ = some (.int .i64 t)
section
variable {w w' : World} {g : Nat} {lo bo : Option Addr} {lc bc : Nat} {L : List (List Int)} {al th : Int} {B : List (Int × Int)} {dn f t : Int}
theorem FBox.below (h : FBox w g lo bo lc bc L al th B dn) (hb : Below w.heap.size w w') : FBox w' g lo bo lc bc L al th B dn :=
  ⟨cellIn hb h.c0, cellIn hb h.c1, cellIn hb h.c2, cellIn hb h.c3, cellIn hb h.c4⟩
theorem SBox.below (h : SBox w g f t) (hb : Below w.heap.size w w') : SBox w' g f t := ⟨cellIn hb h.c0, cellIn hb h.c1⟩
end

end Go.Proofs.YtlamhfbdeinkkaeGreat.Fo
/- Walk of the document's CheckFares. -/
namespace Go.Proofs.YtlamhfbdeinkkaeGreat.Fo
open Go.RowKit
set_option linter.unusedSimpArgs false
set_option linter.unusedVariables false

/-- The world behind the box that holds the fares. -/
abbrev W.fare (w : World) (lo bo : Option Addr) (lc bc : Nat) (L : List (List Int)) (al th : Int) (B : List (Int × Int)) (dn : Int) : World :=
  w.alloc (.cells #[.slice lo L.length lc, .int .i64 al, .int .i64 th, .slice bo B.length bc, .int .i64 dn] 29)

end Go.Proofs.YtlamhfbdeinkkaeGreat.Fo
/- Walks of the document's PriceOf and PenaltyOf. -/
namespace Go.Proofs.YtlamhfbdeinkkaeGreat.Fo
open Go.RowKit
set_option linter.unusedSimpArgs false
set_option linter.unusedVariables false

/-- What the first j guests pay. -/
def P.pay (S Q : Int) : Nat → Int
  | 0 => 0
  | 1 => S
  | 2 => 2 * S
  | 3 => 2 * S + Q
  | _ => 2 * S + 2 * Q

end Go.Proofs.YtlamhfbdeinkkaeGreat.Fo
