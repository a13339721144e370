/- Bookings with where their folios lie; spans of a cabin, souls on a leg, as plain functions. -/
import Derived.Test.YtgopdnlmiloipadBkE
namespace Go.Proofs.Ytgopdnlmiloipad.Bk
open Go.RowKit
set_option linter.unusedSimpArgs false
set_option linter.unusedVariables false

/-- A booking, and where its folio lies. -/
abbrev BkV := Bkg × Option Addr × Nat
abbrev V.bkv (x : BkV) : Value := V.bk x.1 x.2.1 x.2.2
abbrev cellsV (x : BkV) : List Value := cellsBk x.1 x.2.1 x.2.2
def RBkV (w : World) (x : BkV) (cs : List Value) : Prop := cs = cellsV x ∧ Fo.EntsAt w x.2.1 x.2.2 x.1.fol
theorem RBkV.mono : Mono RBkV := fun w w' x cs hb ⟨h1, h2⟩ => ⟨h1, SlAt.below Fo.REnt.mono h2 hb⟩
abbrev BkVsAt (w : World) (ao : Option Addr) (cap : Nat) (l : List BkV) : Prop := SlAt RBkV 11 w ao cap l

theorem BksAt.pick {w : World} {ao : Option Addr} {cap : Nat} {l : List Bkg} (h : BksAt w ao cap l) : ∃ lv : List BkV, lv.map (·.1) = l ∧ BkVsAt w ao cap lv := by
  rcases Nat.eq_zero_or_pos l.length with h0 | h0
  · obtain rfl : l = [] := List.eq_nil_of_length_eq_zero h0
    exact ⟨[], rfl, by simp, h.max, h.nil, fun h => by simp at h⟩
  · obtain ⟨b, off, rfl, hlt, hc⟩ := h.cells h0
    have each : ∀ i, i < l.length → ∃ q : BkV, l[i]? = some q.1 ∧ Fo.EntsAt w q.2.1 q.2.2 q.1.fol ∧ ∀ j u, (cellsV q)[j]? = some u → w.cell? ⟨b, off + i * 11 + j, none⟩ = some u := by
      intro i hi
      obtain ⟨cs, ⟨fo, fc, rfl, h2⟩, _, h3⟩ := hc i hi
      exact ⟨(l[i], fo, fc), by simp [hi], h2, h3⟩
    haveI : Inhabited BkV := ⟨(⟨0, 0, 0, 0, false, 0, 0, 0, 0, 0, []⟩, none, 0)⟩
    obtain ⟨q, hq⟩ := Go.Deep.choose_lt each
    refine ⟨(List.range l.length).map q, ?_, by simpa using h.le, h.max, h.nil, fun _ => ⟨b, off, rfl, hlt, fun i hi => ?_⟩⟩
    · refine List.ext_getElem? fun i => ?_
      rcases Nat.lt_or_ge i l.length with hi | hi
      · rw [(hq i hi).1]; simp [hi]
      · rw [List.getElem?_eq_none hi, List.getElem?_eq_none (by simpa using hi)]
    · simp at hi
      obtain ⟨_, r2, r3⟩ := hq i hi
      refine ⟨cellsV (q i), ⟨by simp, by simpa using r2⟩, rfl, r3⟩

theorem BkVsAt.all {w : World} {ao : Option Addr} {cap : Nat} {lv : List BkV} (h : BkVsAt w ao cap lv) : BksAt w ao cap (lv.map (·.1)) := by
  refine ⟨by simpa using h.le, h.max, h.nil, fun h0 => ?_⟩
  simp at h0
  obtain ⟨b, off, rfl, hlt, hc⟩ := h.cells h0
  refine ⟨b, off, rfl, hlt, fun i hi => ?_⟩
  simp at hi
  obtain ⟨cs, ⟨h1, h2⟩, h3, h4⟩ := hc i hi
  exact ⟨cs, ⟨_, _, by simpa using h1, by simpa using h2⟩, h3, h4⟩

theorem BkVsAt.get {w w' : World} {ao : Option Addr} {cap : Nat} {l : List BkV} (h : BkVsAt w ao cap l) (hb : Below w.heap.size w w') (k : Nat) (hk : k < l.length) :
    ∃ b off x, ao = some ⟨b, off, none⟩ ∧ b < w.heap.size ∧ l.drop k = x :: l.drop (k + 1) ∧ BkAt w' b (off + k * 11) x.1 x.2.1 x.2.2 ∧ Fo.EntsAt w' x.2.1 x.2.2 x.1.fol := by
  obtain ⟨b, off, x, cs, h1, h2, h3, ⟨rfl, h4⟩, h5, h6⟩ := SlAt.get RBkV.mono h hb k hk
  exact ⟨b, off, x, h1, h2, h3, ⟨h6 0 _ rfl, h6 1 _ rfl, h6 2 _ rfl, h6 3 _ rfl, h6 4 _ rfl, h6 5 _ rfl, h6 6 _ rfl, h6 7 _ rfl, h6 8 _ rfl, h6 9 _ rfl, h6 10 _ rfl⟩, h4⟩

/-- Has a live booking the cabin? -/
def P.hasC (cabin : Int) (b : Bkg) : Bool := P.live b && decide (b.cabin = cabin)
/-- Spans that are added, one by one. -/
def P.addsE (n : Int) : List (Int × Int) → List (Int × Int) → Int
  | _, [] => 0
  | acc, x :: r => if Sp.P.addE acc n x.1 x.2 = 0 then P.addsE n (Sp.P.addL acc n x.1 x.2) r else Sp.P.addE acc n x.1 x.2
def P.addsL (n : Int) : List (Int × Int) → List (Int × Int) → List (Int × Int)
  | acc, [] => acc
  | acc, x :: r => if Sp.P.addE acc n x.1 x.2 = 0 then P.addsL n (Sp.P.addL acc n x.1 x.2) r else []
abbrev P.spn (b : Bkg) : Int × Int := (b.frm, b.to)
/-- The spans of who has the cabin. -/
def P.mine (cabin : Int) (l : List Bkg) : List (Int × Int) := (l.filter (P.hasC cabin)).map P.spn
/-- G2: Spans. -/
def P.spE (s : Vsl) (l : List Bkg) (cabin : Int) : Int := if P.allE s l = 0 then (if P.cabB s cabin = true then P.addsE s.legs [] (P.mine cabin l) else 3) else P.allE s l
def P.spL (s : Vsl) (l : List Bkg) (cabin : Int) : List (Int × Int) := if P.allE s l = 0 then (if P.cabB s cabin = true then P.addsL s.legs [] (P.mine cabin l) else []) else []

/-- G2: Souls. -/
def P.onLeg (k : Int) (b : Bkg) : Int := if (P.live b && P.btw k b.frm (b.to - 1)) = true then b.guests else 0
def P.soul (k : Int) : List Bkg → Int
  | [] => 0
  | b :: t => P.onLeg k b + P.soul k t
def P.soulsL (n : Nat) (l : List Bkg) : List Int := (List.range n).map fun k => P.soul (k : Nat) l
def P.over (l : List Int) : Bool := l.any fun n => decide (60 < n)
def P.soE (s : Vsl) (l : List Bkg) : Int := if P.allE s l = 0 then (if P.over (P.soulsL s.legs.toNat l) = true then 2 else 0) else P.allE s l
def P.soL (s : Vsl) (l : List Bkg) : List Int := if P.soE s l = 0 then P.soulsL s.legs.toNat l else []

theorem bk_ok {s : Vsl} {b : Bkg} (h : P.bkE s b = 0) : P.chk b.frm b.to s.legs = 0 ∧ 1 ≤ b.guests ∧ b.guests ≤ 4 ∧ 1 ≤ b.id ∧ b.id ≤ 999999 ∧ P.kindE s b = 0 ∧ (b.kind = 1 ∨ b.kind = 2) ∧ (b.state = 1 ∨ b.state = 2 ∨ b.state = 3) ∧ Fo.P.folE b.fol = 0 := by
  unfold P.bkE at h
  split at h
  · rename_i h1
    split at h
    · rename_i h2
      split at h
      · rename_i h3
        split at h
        · rename_i h4
          split at h
          · split at h
            · omega
            · simp [P.btw] at h1 h2
              refine ⟨h3, by omega, by omega, by omega, by omega, h4, by omega, by omega, h⟩
          · omega
        · contradiction
      · contradiction
    · omega
  · omega

theorem kind_named {s : Vsl} {b : Bkg} (h : P.kindE s b = 0) (hk : b.kind = 1) : P.cabB s b.cabin = true := by
  rw [P.kindE, if_pos hk] at h
  unfold P.namedE at h
  split at h
  · assumption
  · omega
theorem kind_prom {s : Vsl} {b : Bkg} (h : P.kindE s b = 0) (hk : b.kind = 2) : 0 ≤ b.cat ∧ b.cat < s.cs.length ∧ b.frm = 0 ∧ b.to = s.legs ∧ (b.cabin = -1 ∨ (P.cabB s b.cabin = true ∧ P.elig s b b.cabin = true)) := by
  rw [P.kindE, if_neg (by omega)] at h
  unfold P.promE at h
  split at h
  · rename_i h1
    split at h
    · rename_i h2
      simp [P.btw] at h1
      refine ⟨by omega, by omega, h2.1, h2.2, ?_⟩
      split at h
      · left; assumption
      · rename_i h3
        split at h
        · rename_i h4
          split at h
          · rename_i h5
            exact .inr ⟨h4, h5⟩
          · omega
        · omega
    · omega
  · omega

theorem onLeg_bd {k : Int} {s : Vsl} {b : Bkg} (h : P.bkE s b = 0) : 0 ≤ P.onLeg k b ∧ P.onLeg k b ≤ 4 := by
  obtain ⟨_, h1, h2, _⟩ := bk_ok h
  unfold P.onLeg
  split <;> omega
theorem soul_bd {k : Int} {s : Vsl} {l : List Bkg} (h : ∀ b ∈ l, P.bkE s b = 0) : 0 ≤ P.soul k l ∧ P.soul k l ≤ 4 * (l.length : Int) := by
  induction l with
  | nil => simp [P.soul]
  | cons b t ih =>
    have h1 := onLeg_bd (k := k) (h b (by simp))
    have h2 := ih (fun x hx => h x (by simp [hx]))
    rw [P.soul, List.length_cons]
    push_cast
    omega
theorem soul_append (k : Int) (l m : List Bkg) : P.soul k (l ++ m) = P.soul k l + P.soul k m := by
  induction l with
  | nil => simp [P.soul]
  | cons b t ih => rw [List.cons_append, P.soul, P.soul, ih]; omega
theorem soul_snoc (k : Int) (l : List Bkg) (b : Bkg) : P.soul k (l ++ [b]) = P.soul k l + P.onLeg k b := by
  rw [soul_append, P.soul, P.soul]; omega
theorem onLeg_gone {k : Int} {b : Bkg} (h : P.live b = false) : P.onLeg k b = 0 := by simp [P.onLeg, h]
theorem soul_live (k : Int) (l : List Bkg) : P.soul k (l.filter P.live) = P.soul k l := by
  induction l with
  | nil => rfl
  | cons b t ih =>
    rw [List.filter_cons]
    cases hb : P.live b
    · simp [P.soul, onLeg_gone hb, ih]
    · simp [P.soul, ih]

/-- What was added is a calendar. -/
theorem adds_cal {n : Int} {acc r : List (Int × Int)} (h : Sp.P.calendar acc n = 0) (h0 : P.addsE n acc r = 0) : Sp.P.calendar (P.addsL n acc r) n = 0 := by
  induction r generalizing acc with
  | nil => exact h
  | cons x r ih =>
    rw [P.addsE] at h0
    rw [P.addsL]
    split at h0
    · rename_i he
      rw [if_pos he]
      refine ih ?_ h0
      rw [(Sp.add_ok he).2.2.2]
      exact Sp.ins_calendar he
    · contradiction
theorem nil_cal {n : Int} (h : P.sails n = true) : Sp.P.calendar [] n = 0 := by simp [Sp.P.calendar, h, Sp.P.cal]
theorem both_of {acc : List (Int × Int)} {n f t : Int} (h : Sp.P.calendar acc n = 0) (hc : P.chk f t n = 0) : Sp.P.both acc n f t = 0 := by rw [Sp.P.both, if_pos h, hc]
theorem add_06 {acc : List (Int × Int)} {n f t : Int} (h : Sp.P.calendar acc n = 0) (hc : P.chk f t n = 0) : Sp.P.addE acc n f t = 0 ∨ Sp.P.addE acc n f t = 6 := by
  rw [Sp.P.addE, if_pos (both_of h hc)]
  split <;> simp
theorem add_cal {acc : List (Int × Int)} {n f t : Int} (he : Sp.P.addE acc n f t = 0) : Sp.P.calendar (Sp.P.addL acc n f t) n = 0 := by
  rw [(Sp.add_ok he).2.2.2]
  exact Sp.ins_calendar he
theorem adds_06 {n : Int} {acc r : List (Int × Int)} (h : Sp.P.calendar acc n = 0) (hr : ∀ x ∈ r, P.chk x.1 x.2 n = 0) : P.addsE n acc r = 0 ∨ P.addsE n acc r = 6 := by
  induction r generalizing acc with
  | nil => left; rfl
  | cons x r ih =>
    rw [P.addsE]
    split
    · rename_i he
      exact ih (add_cal he) (fun y hy => hr y (by simp [hy]))
    · rename_i he
      rcases add_06 h (hr x (by simp)) with h1 | h1
      · exact absurd h1 he
      · exact .inr h1
theorem addsL_of {n : Int} {acc r : List (Int × Int)} (h : P.addsE n acc r ≠ 0) : P.addsL n acc r = [] := by
  induction r generalizing acc with
  | nil => exact absurd rfl h
  | cons x r ih =>
    rw [P.addsE] at h
    rw [P.addsL]
    split
    · rename_i he
      rw [if_pos he] at h
      exact ih h
    · rfl

end Go.Proofs.Ytgopdnlmiloipad.Bk
