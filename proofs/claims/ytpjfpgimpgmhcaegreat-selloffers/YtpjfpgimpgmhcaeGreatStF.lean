/- The reference: CheckSailing, as far as the frame. -/
import Derived.Test.YtpjfpgimpgmhcaeGreatStA
namespace Go.Proofs.YtpjfpgimpgmhcaeGreat.St
open Go.RowKit Bk
set_option linter.unusedSimpArgs false
set_option linter.unusedVariables false
set_option maxRecDepth 10000

def P.fareS (x : Sail) : Int := Fo.P.fareE x.L x.al x.th x.B x.dn x.s.cs.length x.s.legs
/-- H1, ahead of any booking. -/
def P.frame (x : Sail) : Int :=
  if P.shp x.s = 0 then (if P.fareS x = 0 then (if (P.btw x.day 0 9999 && P.btw x.lvs 0 9999) = true then (if 16 < x.bks.length then 2 else 0) else 3) else P.fareS x) else P.shp x.s
/-- H1, booking by booking. -/
def P.bksI (s : Vsl) : Int → List Bkg → Int
  | _, [] => 0
  | p, b :: t => if P.bkE s b = 0 then (if b.id ≤ p then 4 else P.bksI s b.id t) else P.bkE s b
/-- Is a live promise otherwise than the sailing is closed, or is not? -/
def P.clB (x : Sail) (b : Bkg) : Bool := decide (b.kind = 2) && P.live b && (if x.cl = true then decide (b.cabin < 0) else decide (0 ≤ b.cabin))
/-- H1, ahead of what the bookings are together. -/
def P.pre (x : Sail) : Int := if P.frame x = 0 then (if P.bksI x.s 0 x.bks = 0 then (if x.bks.any (P.clB x) = true then 4 else 0) else P.bksI x.s 0 x.bks) else P.frame x
theorem pre_frame {x : Sail} (h : ¬ P.frame x = 0) : P.pre x = P.frame x := by rw [P.pre, if_neg h]
theorem frame_shp {x : Sail} (h : ¬ P.shp x.s = 0) : P.frame x = P.shp x.s := by rw [P.frame, if_neg h]
theorem frame_fare {x : Sail} (h : P.shp x.s = 0) (h1 : ¬ P.fareS x = 0) : P.frame x = P.fareS x := by rw [P.frame, if_pos h, if_neg h1]
theorem frame_day {x : Sail} (h : P.shp x.s = 0) (h1 : P.fareS x = 0) (h2 : (P.btw x.day 0 9999 && P.btw x.lvs 0 9999) = false) : P.frame x = 3 := by rw [P.frame, if_pos h, if_pos h1, if_neg (by simp [h2])]
theorem frame_many {x : Sail} (h : P.shp x.s = 0) (h1 : P.fareS x = 0) (h2 : (P.btw x.day 0 9999 && P.btw x.lvs 0 9999) = true) (h3 : 16 < x.bks.length) : P.frame x = 2 := by rw [P.frame, if_pos h, if_pos h1, if_pos h2, if_pos h3]
theorem frame_ok {x : Sail} (h : P.shp x.s = 0) (h1 : P.fareS x = 0) (h2 : (P.btw x.day 0 9999 && P.btw x.lvs 0 9999) = true) (h3 : ¬ 16 < x.bks.length) : P.frame x = 0 := by rw [P.frame, if_pos h, if_pos h1, if_pos h2, if_neg h3]
end Go.Proofs.YtpjfpgimpgmhcaeGreat.St
