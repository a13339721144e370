/- What is sold: plain functions, and what they tell. -/
import Derived.Test.YtlamhfbdeinkkaeGreatStSo
namespace Go.Proofs.YtlamhfbdeinkkaeGreat.St
open Go.RowKit Bk
set_option linter.unusedSimpArgs false
set_option linter.unusedVariables false
set_option maxRecDepth 10000

/-- The sailing beside an errno. -/
def P.zeroS : Sail := ⟨⟨0, 0, [], []⟩, [], 0, 0, [], 0, 0, 0, [], false⟩
def A.zeroS : SailA := ⟨⟨none, none, 0, 0⟩, none, none, 0, 0, none, 0⟩
theorem zero_at (w : World) : SailAt w P.zeroS A.zeroS := ⟨⟨SlAt.nilOf _, SlAt.nilOf _⟩, ⟨SlAt.nilOf _, SlAt.nilOf _⟩, SlAt.nilOf _⟩

/-- An option is decided in time; anything else is. -/
def P.waits (x : Sail) (b : Bkg) : Bool := decide (b.state ≠ 1) || (decide (x.day ≤ b.til) && decide (b.til < x.lvs))
/-- By which category one pays. -/
def P.catOf (k : Int) (x : Sail) (b : Bkg) : Int := if k = 1 then (P.cabAt x.s b.cabin).2.1 else b.cat
def P.fee (k : Int) (x : Sail) (b : Bkg) : Int := Fo.P.price x.L x.al x.th x.B x.dn x.s.cs.length x.s.legs (P.catOf k x b) b.frm b.to b.guests
def P.setF (b : Bkg) (l : List Fo.Ent) : Bkg := ⟨b.id, b.kind, b.state, b.guests, b.level, b.cabin, b.cat, b.frm, b.to, b.til, l⟩
/-- As it is sold. -/
def P.priced (k : Int) (x : Sail) (b : Bkg) : Bkg := P.setF b [(x.day, 1, P.fee k x b)]
def P.isIn (id : Int) (l : List Bkg) : Bool := l.any (fun y => decide (y.id = id))
/-- I1: what is wrong ahead of the room. -/
def P.lateE (k : Int) (x : Sail) (b : Bkg) : Int :=
  if (x.lvs ≤ x.day ∨ P.waits x b = false) ∨ (k = 2 ∧ x.cl = true) then 4 else if P.isIn b.id x.bks = true then 6 else if 16 ≤ x.bks.length then 2 else 0
def P.sellE (k : Int) (x : Sail) (b : Bkg) : Int :=
  if b.kind = k ∧ b.state ≠ 3 then (if 0 < b.fol.length ∨ (k = 2 ∧ b.cabin ≠ -1) then 1 else if P.bkE x.s b = 0 then P.lateE k x b else P.bkE x.s b) else 7
/-- I1: the sailing that comes, or the errno: of a sailing that is right. -/
def P.Sells (k : Int) (x : Sail) (b : Bkg) (r : Int) (y : Sail) : Prop :=
  (¬ P.sellE k x b = 0 ∧ r = P.sellE k x b ∧ y = P.zeroS) ∨
  (P.sellE k x b = 0 ∧ P.Room (P.withB x (P.priced k x b)) r ∧ ((r = 0 ∧ y = P.withB x (P.priced k x b)) ∨ (¬ r = 0 ∧ y = P.zeroS)))
/-- Of whatever sailing. -/
def P.SellS (k : Int) (x : Sail) (b : Bkg) (r : Int) (y : Sail) : Prop := (∃ q, P.SailE x q ∧ ¬ q = 0 ∧ r = q ∧ y = P.zeroS) ∨ (P.SailE x 0 ∧ P.Sells k x b r y)
theorem Sells.one {k : Int} {x : Sail} {b : Bkg} {r r' : Int} {y y' : Sail} (h : P.Sells k x b r y) (h' : P.Sells k x b r' y') : r = r' ∧ y = y' := by
  rcases h with ⟨a1, rfl, rfl⟩ | ⟨a1, a2, a3⟩ <;> rcases h' with ⟨b1, rfl, rfl⟩ | ⟨b1, b2, b3⟩
  · exact ⟨rfl, rfl⟩
  · exact absurd b1 a1
  · exact absurd a1 b1
  · obtain rfl := Room.one a2 b2
    refine ⟨rfl, ?_⟩
    rcases a3 with ⟨c1, rfl⟩ | ⟨c1, rfl⟩ <;> rcases b3 with ⟨d1, rfl⟩ | ⟨d1, rfl⟩
    · rfl
    · exact absurd c1 d1
    · exact absurd d1 c1
    · rfl
theorem SellS.one {k : Int} {x : Sail} {b : Bkg} {r r' : Int} {y y' : Sail} (h : P.SellS k x b r y) (h' : P.SellS k x b r' y') : r = r' ∧ y = y' := by
  rcases h with ⟨q, a1, a2, rfl, rfl⟩ | ⟨a1, a2⟩ <;> rcases h' with ⟨q', b1, b2, rfl, rfl⟩ | ⟨b1, b2⟩
  · exact ⟨SailE.one a1 b1, rfl⟩
  · exact absurd (SailE.one a1 b1) a2
  · exact absurd (SailE.one b1 a1) b2
  · exact Sells.one a2 b2
theorem Sells.err {k : Int} {x : Sail} {b : Bkg} {r : Int} {y : Sail} (h : P.Sells k x b r y) (hr : ¬ r = 0) : y = P.zeroS := by
  rcases h with ⟨a1, rfl, rfl⟩ | ⟨a1, a2, ⟨a3, _⟩ | ⟨_, rfl⟩⟩
  · rfl
  · exact absurd a3 hr
  · rfl
theorem SellS.err {k : Int} {x : Sail} {b : Bkg} {r : Int} {y : Sail} (h : P.SellS k x b r y) (hr : ¬ r = 0) : y = P.zeroS := by
  rcases h with ⟨q, a1, a2, rfl, rfl⟩ | ⟨a1, a2⟩
  · rfl
  · exact Sells.err a2 hr

theorem room_vals {x : Sail} {r : Int} (h : P.Room x r) : r = 6 ∨ r = 8 ∨ r = 9 ∨ r = 0 := by
  rcases h with ⟨_, rfl⟩ | ⟨_, _, rfl⟩ | ⟨_, _, c, _, rfl⟩
  · simp
  · simp
  · split <;> simp
theorem sail_room {x : Sail} {q : Int} (hp : P.pre x = 0) (h : P.SailE x q) : P.Room x (if q = 2 then 8 else q) := by
  rcases h with ⟨h1, _⟩ | ⟨_, r, hr, rfl⟩
  · exact absurd hp h1
  · have hv := room_vals hr
    have e : (if (if r = 8 then 2 else r) = 2 then (8 : Int) else (if r = 8 then 2 else r)) = r := by
      rcases hv with rfl | rfl | rfl | rfl <;> simp
    rw [e]
    exact hr
end Go.Proofs.YtlamhfbdeinkkaeGreat.St
