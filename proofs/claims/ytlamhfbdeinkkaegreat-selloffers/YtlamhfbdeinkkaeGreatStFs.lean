/- The reference: CheckSailing, as far as the frame. -/
import Derived.Test.YtlamhfbdeinkkaeGreatStAs
import Derived.Test.YtlamhfbdeinkkaeGreatMaFs
namespace Go.Proofs.YtlamhfbdeinkkaeGreat.St
open Go.RowKit Bk
set_option linter.unusedSimpArgs false
set_option linter.unusedVariables false
set_option maxRecDepth 10000

def P.fareS (x : Sail) : Int := Fo.P.fareE x.L x.al x.th x.B x.dn x.s.cs.length x.s.legs
/-- H1, ahead of any booking. -/
def P.frame (x : Sail) : Int :=
  if P.shp x.s = 0 then (if P.fareS x = 0 then (if (P.btw x.day 0 9999 && P.btw x.lvs 0 9999) = true then (if 16 < x.bks.length then 2 else 0) else 3) else P.fareS x) else P.shp x.s
/-- H1, booking by booking. -/
def P.bksI (s : Vsl) : Int → List Bkg → Int
  | _, [] => 0
  | p, b :: t => if P.bkE s b = 0 then (if b.id ≤ p then 4 else P.bksI s b.id t) else P.bkE s b
/-- Is a live promise otherwise than the sailing is closed, or is not? -/
def P.clB (x : Sail) (b : Bkg) : Bool := decide (b.kind = 2) && P.live b && (if x.cl = true then decide (b.cabin < 0) else decide (0 ≤ b.cabin))
/-- H1, ahead of what the bookings are together. -/
def P.pre (x : Sail) : Int := if P.frame x = 0 then (if P.bksI x.s 0 x.bks = 0 then (if x.bks.any (P.clB x) = true then 4 else 0) else P.bksI x.s 0 x.bks) else P.frame x
theorem pre_frame {x : Sail} (h : ¬ P.frame x = 0) : P.pre x = P.frame x := by rw [P.pre, if_neg h]
theorem frame_shp {x : Sail} (h : ¬ P.shp x.s = 0) : P.frame x = P.shp x.s := by rw [P.frame, if_neg h]
theorem frame_fare {x : Sail} (h : P.shp x.s = 0) (h1 : ¬ P.fareS x = 0) : P.frame x = P.fareS x := by rw [P.frame, if_pos h, if_neg h1]
theorem frame_day {x : Sail} (h : P.shp x.s = 0) (h1 : P.fareS x = 0) (h2 : (P.btw x.day 0 9999 && P.btw x.lvs 0 9999) = false) : P.frame x = 3 := by rw [P.frame, if_pos h, if_pos h1, if_neg (by simp [h2])]
theorem frame_many {x : Sail} (h : P.shp x.s = 0) (h1 : P.fareS x = 0) (h2 : (P.btw x.day 0 9999 && P.btw x.lvs 0 9999) = true) (h3 : 16 < x.bks.length) : P.frame x = 2 := by rw [P.frame, if_pos h, if_pos h1, if_pos h2, if_pos h3]
theorem frame_ok {x : Sail} (h : P.shp x.s = 0) (h1 : P.fareS x = 0) (h2 : (P.btw x.day 0 9999 && P.btw x.lvs 0 9999) = true) (h3 : ¬ 16 < x.bks.length) : P.frame x = 0 := by rw [P.frame, if_pos h, if_pos h1, if_pos h2, if_neg h3]
end Go.Proofs.YtlamhfbdeinkkaeGreat.St
namespace Go.Proofs.YtlamhfbdeinkkaeGreat.St
open Go.RowKit Bk
set_option linter.unusedSimpArgs false
set_option linter.unusedVariables false
set_option maxRecDepth 10000

/-- H1. -/
def P.SailE (x : Sail) (r : Int) : Prop := (¬ P.pre x = 0 ∧ r = P.pre x) ∨ (P.pre x = 0 ∧ ∃ q, P.Room x q ∧ r = if q = 8 then 2 else q)
theorem SailE.one {x : Sail} {r r' : Int} (h : P.SailE x r) (h' : P.SailE x r') : r = r' := by
  rcases h with ⟨a, rfl⟩ | ⟨a, q, hq, rfl⟩ <;> rcases h' with ⟨a', rfl⟩ | ⟨a', q', hq', rfl⟩
  · rfl
  · exact absurd a' a
  · exact absurd a a'
  · rw [Room.one hq hq']
theorem frame_zero {x : Sail} (h : P.frame x = 0) : P.shp x.s = 0 ∧ P.fareS x = 0 ∧ P.btw x.day 0 9999 = true ∧ P.btw x.lvs 0 9999 = true ∧ x.bks.length ≤ 16 := by
  unfold P.frame at h
  split at h
  · split at h
    · split at h
      · rename_i h1 h2 h3
        obtain ⟨h4, h5⟩ := Bool.and_eq_true_iff.1 h3
        split at h
        · omega
        · exact ⟨h1, h2, h4, h5, by omega⟩
      · omega
    · contradiction
  · contradiction
theorem pre_bks {x : Sail} (h : P.frame x = 0) (h1 : ¬ P.bksI x.s 0 x.bks = 0) : P.pre x = P.bksI x.s 0 x.bks := by rw [P.pre, if_pos h, if_neg h1]
theorem pre_cl {x : Sail} (h : P.frame x = 0) (h1 : P.bksI x.s 0 x.bks = 0) (h2 : x.bks.any (P.clB x) = true) : P.pre x = 4 := by rw [P.pre, if_pos h, if_pos h1, if_pos h2]
theorem pre_ok {x : Sail} (h : P.frame x = 0) (h1 : P.bksI x.s 0 x.bks = 0) (h2 : x.bks.any (P.clB x) = false) : P.pre x = 0 := by rw [P.pre, if_pos h, if_pos h1, if_neg (by simp [h2])]
theorem bksI_ok {s : Vsl} {p : Int} {l : List Bkg} (h : P.bksI s p l = 0) : ∀ b ∈ l, P.bkE s b = 0 := by
  induction l generalizing p with
  | nil => simp
  | cons b t ih =>
    rw [P.bksI] at h
    split at h
    · rename_i hb
      split at h
      · omega
      · intro y hy
        rcases List.mem_cons.1 hy with rfl | hy
        · exact hb
        · exact ih h y hy
    · contradiction
theorem bksI_bad {s : Vsl} {p : Int} {y : Bkg} {t : List Bkg} (h : ¬ P.bkE s y = 0) : P.bksI s p (y :: t) = P.bkE s y := by rw [P.bksI, if_neg h]
theorem bksI_low {s : Vsl} {p : Int} {y : Bkg} {t : List Bkg} (h : P.bkE s y = 0) (hp : y.id ≤ p) : P.bksI s p (y :: t) = 4 := by rw [P.bksI, if_pos h, if_pos hp]
theorem bksI_on {s : Vsl} {p : Int} {y : Bkg} {t : List Bkg} (h : P.bkE s y = 0) (hp : ¬ y.id ≤ p) : P.bksI s p (y :: t) = P.bksI s y.id t := by rw [P.bksI, if_pos h, if_neg hp]

end Go.Proofs.YtlamhfbdeinkkaeGreat.St
namespace Go.Proofs.YtlamhfbdeinkkaeGreat.St
open Go.RowKit Bk
set_option linter.unusedSimpArgs false
set_option linter.unusedVariables false
set_option maxRecDepth 10000

end Go.Proofs.YtlamhfbdeinkkaeGreat.St
