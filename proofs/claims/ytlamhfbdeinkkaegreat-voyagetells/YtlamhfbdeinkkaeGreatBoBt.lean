import Derived.Test.YtlamhfbdeinkkaeGreatBoAt
set_option maxRecDepth 10000
/- The walk of checkAll. -/
namespace Go.Proofs.YtlamhfbdeinkkaeGreat.Bk
open Go.RowKit
set_option linter.unusedSimpArgs false
set_option linter.unusedVariables false

/-- G2: bookings of a ship that is right, one by one. -/
def P.bksE (s : Vsl) : List Bkg → Int
  | [] => 0
  | b :: t => if P.bkE s b = 0 then P.bksE s t else P.bkE s b
def P.allE (s : Vsl) (l : List Bkg) : Int := if P.shp s = 0 then P.bksE s l else P.shp s

theorem bks_bad {s : Vsl} {l : List Bkg} {x : Bkg} {k : Nat} (hP : P.bksE s (l.drop k) = P.bksE s l) (hD : l.drop k = x :: l.drop (k + 1)) (h : (P.bkE s x != 0) = true) : P.bksE s l = P.bkE s x := by
  rw [← hP, hD, P.bksE, if_neg (by simpa using h)]
theorem bks_on {s : Vsl} {l : List Bkg} {x : Bkg} {k : Nat} (hP : P.bksE s (l.drop k) = P.bksE s l) (hD : l.drop k = x :: l.drop (k + 1)) (h : (P.bkE s x != 0) = false) : P.bksE s (l.drop (k + 1)) = P.bksE s l := by
  rw [← hP, hD, P.bksE, if_pos (by simpa using h)]
theorem bks_end {s : Vsl} {l : List Bkg} (hP : P.bksE s (l.drop l.length) = P.bksE s l) : P.bksE s l = 0 := by
  rw [← hP, List.drop_of_length_le (Nat.le_refl _)]; rfl
theorem bks_ok {s : Vsl} {l : List Bkg} (h : P.bksE s l = 0) : ∀ b ∈ l, P.bkE s b = 0 := by
  induction l with
  | nil => simp
  | cons b t ih =>
    rw [P.bksE] at h
    split at h
    · rename_i hb
      intro x hx
      rcases List.mem_cons.1 hx with rfl | hx
      · exact hb
      · exact ih h x hx
    · contradiction
theorem all_ok {s : Vsl} {l : List Bkg} (h : P.allE s l = 0) : P.shp s = 0 ∧ ∀ b ∈ l, P.bkE s b = 0 := by
  unfold P.allE at h
  split at h
  · exact ⟨by assumption, bks_ok h⟩
  · contradiction

set_option maxHeartbeats 4000000 in
theorem checkAll_any (s : Vsl) (a : VslA) (ao : Option Addr) (cap : Nat) (l : List Bkg) (w : World) (hs : VslAt w s a) (hl : BksAt w ao cap l) :
    Calls Tryz.prog 149 #[V.vsl s a, .slice ao l.length cap] w fun e w' => e = .returned (.int .i64 (P.allE s l)) ∧ Below w.heap.size w w' := by
  have hle := hl.le
  have hmx := hl.max
  unfold maxLen at hmx
  have hvx := VBox.new w s a
  have hbt : Below w.heap.size w (w.alloc (.cells #[.int .i64 s.legs, .int .i64 s.souls, .slice a.cao s.cs.length a.cc, .slice a.bao s.bs.length a.bc] 25)) := by go_grown
  cases hz : (P.shp s != 0)
  · have hz0 : P.shp s = 0 := by simpa using hz
    have HE : Aside (P.allE s l = P.bksE s l) := by show _ = _; rw [P.allE, if_pos hz0]
    have HZ : Aside (P.shp s = 0) := hz0
    clear hz0
    go_enter Tryz.func149, Tryz.ntmps149
    go_wp2_with (go_at_call 104; refine (shp_any s a _ (hs.below hbt)).mono ?_; rintro e w1 ⟨rfl, hb1⟩)
    go_loopg [16] l.length (fun g i wr => ∃ (k : Nat), k ≤ l.length ∧ g = l.length - k ∧ i = .int .i64 k ∧ P.bksE s (l.drop k) = P.bksE s l ∧ VBox wr w.heap.size s a ∧ w.heap.size < wr.heap.size ∧ Below w.heap.size w wr)
    case atStart => exact ⟨0, Nat.zero_le _, rfl, rfl, rfl, hvx.below hb1, by have := hb1.size; simp at this; omega, bvia hbt hb1⟩
    case round =>
      obtain ⟨k, hk, rfl, rfl, hP, hv, hlw, hB⟩ := hrel
      have HP : Aside (P.bksE s (l.drop k) = P.bksE s l) := hP
      clear hP hvx hbt hb1
      by_cases hlt : k < l.length
      · obtain ⟨b, off, x, fo, fc, rfl, hbw, hd, hx, hfx⟩ := BksAt.get hl hB k hlt
        have HD : Aside (l.drop k = x :: l.drop (k + 1)) := hd
        clear hd
        have hbl : b < wr.heap.size := by omega
        obtain ⟨x0, x1, x2, x3, x4, x5, x6, x7, x8, x9, x10⟩ := hx
        have HV : Aside (VBox wr w.heap.size s a) := hv
        obtain ⟨v0, v1, v2, v3⟩ := hv
        go_wp2_with (go_at_call 124; refine (checkOn_any s a x fo fc _ (hs.below (bvia hB (by go_grown))) (SlAt.below Fo.REnt.mono hfx (by go_grown)) HZ.out).mono ?_; rintro e w2 ⟨rfl, hb2⟩)
        · go_ret
          exact ⟨ret_int (by rw [HE.out, bks_bad HP.out HD.out ‹_›]), bvia (bvia hB (by go_grown)) hb2⟩
        · go_roundg (l.length - (k + 1))
          case measure => omega
          case rel => exact ⟨k + 1, by omega, rfl, by go_num, bks_on HP.out HD.out ‹_›, (HV.out.below (by go_grown)).below hb2, by have := hb2.size; simp at this; omega, bvia (bvia hB (by go_grown)) hb2⟩
      · have : k = l.length := by omega
        subst this
        go_wp2
        go_ret
        exact ⟨ret_int (by rw [HE.out, bks_end HP.out]), hB⟩
  · have HE : Aside (P.allE s l = P.shp s) := by show _ = _; rw [P.allE, if_neg (by simpa using hz)]
    go_enter Tryz.func149, Tryz.ntmps149
    go_wp2_with (go_at_call 104; refine (shp_any s a _ (hs.below hbt)).mono ?_; rintro e w1 ⟨rfl, hb1⟩)
    go_ret
    exact ⟨ret_int HE.out.symm, bvia hbt hb1⟩

end Go.Proofs.YtlamhfbdeinkkaeGreat.Bk

/- Bookings with where their folios lie; spans of a cabin, souls on a leg, as plain functions. -/
namespace Go.Proofs.YtlamhfbdeinkkaeGreat.Bk
open Go.RowKit
set_option linter.unusedSimpArgs false
set_option linter.unusedVariables false

/-- A booking, and where its folio lies. -/
abbrev BkV := Bkg × Option Addr × Nat
abbrev V.bkv (x : BkV) : Value := V.bk x.1 x.2.1 x.2.2
abbrev cellsV (x : BkV) : List Value := cellsBk x.1 x.2.1 x.2.2
def RBkV (w : World) (x : BkV) (cs : List Value) : Prop := cs = cellsV x ∧ Fo.EntsAt w x.2.1 x.2.2 x.1.fol
theorem RBkV.mono : Mono RBkV := fun w w' x cs hb ⟨h1, h2⟩ => ⟨h1, SlAt.below Fo.REnt.mono h2 hb⟩
abbrev BkVsAt (w : World) (ao : Option Addr) (cap : Nat) (l : List BkV) : Prop := SlAt RBkV 11 w ao cap l

theorem BksAt.pick {w : World} {ao : Option Addr} {cap : Nat} {l : List Bkg} (h : BksAt w ao cap l) : ∃ lv : List BkV, lv.map (·.1) = l ∧ BkVsAt w ao cap lv := by
  rcases Nat.eq_zero_or_pos l.length with h0 | h0
  · obtain rfl : l = [] := List.eq_nil_of_length_eq_zero h0
    exact ⟨[], rfl, by simp, h.max, h.nil, fun h => by simp at h⟩
  · obtain ⟨b, off, rfl, hlt, hc⟩ := h.cells h0
    have each : ∀ i, i < l.length → ∃ q : BkV, l[i]? = some q.1 ∧ Fo.EntsAt w q.2.1 q.2.2 q.1.fol ∧ ∀ j u, (cellsV q)[j]? = some u → w.cell? ⟨b, off + i * 11 + j, none⟩ = some u := by
      intro i hi
      obtain ⟨cs, ⟨fo, fc, rfl, h2⟩, _, h3⟩ := hc i hi
      exact ⟨(l[i], fo, fc), by simp [hi], h2, h3⟩
    haveI : Inhabited BkV := ⟨(⟨0, 0, 0, 0, false, 0, 0, 0, 0, 0, []⟩, none, 0)⟩
    obtain ⟨q, hq⟩ := Go.Deep.choose_lt each
    refine ⟨(List.range l.length).map q, ?_, by simpa using h.le, h.max, h.nil, fun _ => ⟨b, off, rfl, hlt, fun i hi => ?_⟩⟩
    · refine List.ext_getElem? fun i => ?_
      rcases Nat.lt_or_ge i l.length with hi | hi
      · rw [(hq i hi).1]; simp [hi]
      · rw [List.getElem?_eq_none hi, List.getElem?_eq_none (by simpa using hi)]
    · simp at hi
      obtain ⟨_, r2, r3⟩ := hq i hi
      refine ⟨cellsV (q i), ⟨by simp, by simpa using r2⟩, rfl, r3⟩

theorem BkVsAt.all {w : World} {ao : Option Addr} {cap : Nat} {lv : List BkV} (h : BkVsAt w ao cap lv) : BksAt w ao cap (lv.map (·.1)) := by
  refine ⟨by simpa using h.le, h.max, h.nil, fun h0 => ?_⟩
  simp at h0
  obtain ⟨b, off, rfl, hlt, hc⟩ := h.cells h0
  refine ⟨b, off, rfl, hlt, fun i hi => ?_⟩
  simp at hi
  obtain ⟨cs, ⟨h1, h2⟩, h3, h4⟩ := hc i hi
  exact ⟨cs, ⟨_, _, by simpa using h1, by simpa using h2⟩, h3, h4⟩

theorem BkVsAt.get {w w' : World} {ao : Option Addr} {cap : Nat} {l : List BkV} (h : BkVsAt w ao cap l) (hb : Below w.heap.size w w') (k : Nat) (hk : k < l.length) :
    ∃ b off x, ao = some ⟨b, off, none⟩ ∧ b < w.heap.size ∧ l.drop k = x :: l.drop (k + 1) ∧ BkAt w' b (off + k * 11) x.1 x.2.1 x.2.2 ∧ Fo.EntsAt w' x.2.1 x.2.2 x.1.fol := by
  obtain ⟨b, off, x, cs, h1, h2, h3, ⟨rfl, h4⟩, h5, h6⟩ := SlAt.get RBkV.mono h hb k hk
  exact ⟨b, off, x, h1, h2, h3, ⟨h6 0 _ rfl, h6 1 _ rfl, h6 2 _ rfl, h6 3 _ rfl, h6 4 _ rfl, h6 5 _ rfl, h6 6 _ rfl, h6 7 _ rfl, h6 8 _ rfl, h6 9 _ rfl, h6 10 _ rfl⟩, h4⟩

/-- Has a live booking the cabin? -/
def P.hasC (cabin : Int) (b : Bkg) : Bool := P.live b && decide (b.cabin = cabin)
/-- Spans that are added, one by one. -/
def P.addsE (n : Int) : List (Int × Int) → List (Int × Int) → Int
  | _, [] => 0
  | acc, x :: r => if Sp.P.addE acc n x.1 x.2 = 0 then P.addsE n (Sp.P.addL acc n x.1 x.2) r else Sp.P.addE acc n x.1 x.2
def P.addsL (n : Int) : List (Int × Int) → List (Int × Int) → List (Int × Int)
  | acc, [] => acc
  | acc, x :: r => if Sp.P.addE acc n x.1 x.2 = 0 then P.addsL n (Sp.P.addL acc n x.1 x.2) r else []
abbrev P.spn (b : Bkg) : Int × Int := (b.frm, b.to)
/-- The spans of who has the cabin. -/
def P.mine (cabin : Int) (l : List Bkg) : List (Int × Int) := (l.filter (P.hasC cabin)).map P.spn
/-- G2: Spans. -/
def P.spE (s : Vsl) (l : List Bkg) (cabin : Int) : Int := if P.allE s l = 0 then (if P.cabB s cabin = true then P.addsE s.legs [] (P.mine cabin l) else 3) else P.allE s l
def P.spL (s : Vsl) (l : List Bkg) (cabin : Int) : List (Int × Int) := if P.allE s l = 0 then (if P.cabB s cabin = true then P.addsL s.legs [] (P.mine cabin l) else []) else []

/-- G2: Souls. -/
def P.onLeg (k : Int) (b : Bkg) : Int := if (P.live b && P.btw k b.frm (b.to - 1)) = true then b.guests else 0
def P.soul (k : Int) : List Bkg → Int
  | [] => 0
  | b :: t => P.onLeg k b + P.soul k t
def P.soulsL (n : Nat) (l : List Bkg) : List Int := (List.range n).map fun k => P.soul (k : Nat) l
def P.over (l : List Int) : Bool := l.any fun n => decide (60 < n)
def P.soE (s : Vsl) (l : List Bkg) : Int := if P.allE s l = 0 then (if P.over (P.soulsL s.legs.toNat l) = true then 2 else 0) else P.allE s l
def P.soL (s : Vsl) (l : List Bkg) : List Int := if P.soE s l = 0 then P.soulsL s.legs.toNat l else []

theorem bk_ok {s : Vsl} {b : Bkg} (h : P.bkE s b = 0) : P.chk b.frm b.to s.legs = 0 ∧ 1 ≤ b.guests ∧ b.guests ≤ 4 ∧ 1 ≤ b.id ∧ b.id ≤ 999999 ∧ P.kindE s b = 0 ∧ (b.kind = 1 ∨ b.kind = 2) ∧ (b.state = 1 ∨ b.state = 2 ∨ b.state = 3) ∧ Fo.P.folE b.fol = 0 := by
  unfold P.bkE at h
  split at h
  · rename_i h1
    split at h
    · rename_i h2
      split at h
      · rename_i h3
        split at h
        · rename_i h4
          split at h
          · split at h
            · omega
            · simp [P.btw] at h1 h2
              refine ⟨h3, by omega, by omega, by omega, by omega, h4, by omega, by omega, h⟩
          · omega
        · contradiction
      · contradiction
    · omega
  · omega

theorem kind_named {s : Vsl} {b : Bkg} (h : P.kindE s b = 0) (hk : b.kind = 1) : P.cabB s b.cabin = true := by
  rw [P.kindE, if_pos hk] at h
  unfold P.namedE at h
  split at h
  · assumption
  · omega
theorem kind_prom {s : Vsl} {b : Bkg} (h : P.kindE s b = 0) (hk : b.kind = 2) : 0 ≤ b.cat ∧ b.cat < s.cs.length ∧ b.frm = 0 ∧ b.to = s.legs ∧ (b.cabin = -1 ∨ (P.cabB s b.cabin = true ∧ P.elig s b b.cabin = true)) := by
  rw [P.kindE, if_neg (by omega)] at h
  unfold P.promE at h
  split at h
  · rename_i h1
    split at h
    · rename_i h2
      simp [P.btw] at h1
      refine ⟨by omega, by omega, h2.1, h2.2, ?_⟩
      split at h
      · left; assumption
      · rename_i h3
        split at h
        · rename_i h4
          split at h
          · rename_i h5
            exact .inr ⟨h4, h5⟩
          · omega
        · omega
    · omega
  · omega

theorem onLeg_bd {k : Int} {s : Vsl} {b : Bkg} (h : P.bkE s b = 0) : 0 ≤ P.onLeg k b ∧ P.onLeg k b ≤ 4 := by
  obtain ⟨_, h1, h2, _⟩ := bk_ok h
  unfold P.onLeg
  split <;> omega
theorem soul_bd {k : Int} {s : Vsl} {l : List Bkg} (h : ∀ b ∈ l, P.bkE s b = 0) : 0 ≤ P.soul k l ∧ P.soul k l ≤ 4 * (l.length : Int) := by
  induction l with
  | nil => simp [P.soul]
  | cons b t ih =>
    have h1 := onLeg_bd (k := k) (h b (by simp))
    have h2 := ih (fun x hx => h x (by simp [hx]))
    rw [P.soul, List.length_cons]
    push_cast
    omega
theorem soul_append (k : Int) (l m : List Bkg) : P.soul k (l ++ m) = P.soul k l + P.soul k m := by
  induction l with
  | nil => simp [P.soul]
  | cons b t ih => rw [List.cons_append, P.soul, P.soul, ih]; omega
theorem soul_snoc (k : Int) (l : List Bkg) (b : Bkg) : P.soul k (l ++ [b]) = P.soul k l + P.onLeg k b := by
  rw [soul_append, P.soul, P.soul]; omega
theorem onLeg_gone {k : Int} {b : Bkg} (h : P.live b = false) : P.onLeg k b = 0 := by simp [P.onLeg, h]
/-- What was added is a calendar. -/
theorem adds_cal {n : Int} {acc r : List (Int × Int)} (h : Sp.P.calendar acc n = 0) (h0 : P.addsE n acc r = 0) : Sp.P.calendar (P.addsL n acc r) n = 0 := by
  induction r generalizing acc with
  | nil => exact h
  | cons x r ih =>
    rw [P.addsE] at h0
    rw [P.addsL]
    split at h0
    · rename_i he
      rw [if_pos he]
      refine ih ?_ h0
      rw [(Sp.add_ok he).2.2.2]
      exact Sp.ins_calendar he
    · contradiction
theorem nil_cal {n : Int} (h : P.sails n = true) : Sp.P.calendar [] n = 0 := by simp [Sp.P.calendar, h, Sp.P.cal]
theorem both_of {acc : List (Int × Int)} {n f t : Int} (h : Sp.P.calendar acc n = 0) (hc : P.chk f t n = 0) : Sp.P.both acc n f t = 0 := by rw [Sp.P.both, if_pos h, hc]
theorem add_06 {acc : List (Int × Int)} {n f t : Int} (h : Sp.P.calendar acc n = 0) (hc : P.chk f t n = 0) : Sp.P.addE acc n f t = 0 ∨ Sp.P.addE acc n f t = 6 := by
  rw [Sp.P.addE, if_pos (both_of h hc)]
  split <;> simp
theorem add_cal {acc : List (Int × Int)} {n f t : Int} (he : Sp.P.addE acc n f t = 0) : Sp.P.calendar (Sp.P.addL acc n f t) n = 0 := by
  rw [(Sp.add_ok he).2.2.2]
  exact Sp.ins_calendar he
theorem adds_06 {n : Int} {acc r : List (Int × Int)} (h : Sp.P.calendar acc n = 0) (hr : ∀ x ∈ r, P.chk x.1 x.2 n = 0) : P.addsE n acc r = 0 ∨ P.addsE n acc r = 6 := by
  induction r generalizing acc with
  | nil => left; rfl
  | cons x r ih =>
    rw [P.addsE]
    split
    · rename_i he
      exact ih (add_cal he) (fun y hy => hr y (by simp [hy]))
    · rename_i he
      rcases add_06 h (hr x (by simp)) with h1 | h1
      · exact absurd h1 he
      · exact .inr h1
theorem addsL_of {n : Int} {acc r : List (Int × Int)} (h : P.addsE n acc r ≠ 0) : P.addsL n acc r = [] := by
  induction r generalizing acc with
  | nil => exact absurd rfl h
  | cons x r ih =>
    rw [P.addsE] at h
    rw [P.addsL]
    split
    · rename_i he
      rw [if_pos he] at h
      exact ih h
    · rfl

end Go.Proofs.YtlamhfbdeinkkaeGreat.Bk

/- The reference: IsEligible, CheckBooking, CheckAll. -/
namespace Go.Proofs.YtlamhfbdeinkkaeGreat.Bk
open Go.RowKit
set_option linter.unusedSimpArgs false
set_option linter.unusedVariables false

/-- 'wpQuiet', shut: so that nothing unfolds it where operations are struck out. -/
structure Qt (P : Program) (ops : Array Oper) (C : World → Prop) (Q : Act → Prop) (l : List Oper) (a : Act) : Prop where
  out : wpQuiet P ops C Q l a
theorem Qt.step {P : Program} {ops : Array Oper} {C : World → Prop} {Q : Act → Prop} {rest : List Oper} {o : Oper} {a : Act}
    (h : ∀ K : Act → Prop, (∀ a, Qt P ops C Q rest a → K a) → if Region.wanted o (yielded ops a.tmps) then o.quiet P a C K else K (a.put o.dst undef)) : Qt P ops C Q (o :: rest) a := ⟨h _ (fun _ h => h.out)⟩
theorem Qt.fin {P : Program} {ops : Array Oper} {C : World → Prop} {Q : Act → Prop} {a : Act} (h : Q a) : Qt P ops C Q [] a := ⟨h⟩

theorem doesServe_int (s : Vsl) (a : VslA) (x y : Int) (w : World) (hs : VslAt w s a) (h0 : P.shp s = 0) (hx : 0 ≤ x ∧ x < s.cs.length) (hy : 0 ≤ y ∧ y < s.cs.length) :
    Calls Tryz.prog 144 #[V.vsl s a, .int .i64 x, .int .i64 y] w fun e w' => e = .returned (.bool (Sh.P.serves s.cs x y)) ∧ Below w.heap.size w w' := by
  obtain ⟨x, rfl⟩ : ∃ k : Nat, x = k := ⟨x.toNat, by omega⟩
  obtain ⟨y, rfl⟩ : ∃ k : Nat, y = k := ⟨y.toNat, by omega⟩
  exact Sh.doesServe_any _ _ _ _ _ _ _ _ x y w hs h0 (by omega) (by omega)

theorem doesFit_is (c : Sh.Cab) (b : Bkg) (fo : Option Addr) (fc : Nat) (w : World) (v : Bool) (h : P.suits c b = v) :
    Calls Tryz.prog 128 #[V.cab c, V.bk b fo fc] w fun e w' => e = .returned (.bool v) ∧ Below w.heap.size w w' := by
  subst h
  exact doesFit_any c b fo fc w

set_option maxHeartbeats 600000 in
theorem isEligible_any (s : Vsl) (a : VslA) (b : Bkg) (fo : Option Addr) (fc : Nat) (n : Int) (w : World) (hs : VslAt w s a) (h0 : P.shp s = 0) (hc : P.cabB s n = true) (hy : 0 ≤ b.cat ∧ b.cat < s.cs.length) :
    Calls Tryz.prog 91 #[V.vsl s a, V.bk b fo fc, .int .i64 n] w fun e w' => e = .returned (.bool (P.elig s b n)) ∧ Below w.heap.size w w' := by
  have hbt := two_below w s a b fo fc
  have hbx := two_b w s a b fo fc
  have hvx := two_v w s a b fo fc
  obtain ⟨k, bb, off, c, ek, hk, ec, hm, ebao, q0, q1, q2, q3⟩ := cab_get hs hbt hc
  subst ek
  have hk1 : (k : Int) < s.bs.length := by omega
  have hk2 : (0 : Int) ≤ k := by omega
  obtain ⟨g0, g1, _, _⟩ := shp_cabs h0 c hm
  have HS : Aside (∀ W : World, VslAt W s a → Calls Tryz.prog 144 #[V.vsl s a, .int .i64 c.2.1, .int .i64 b.cat] W fun e w' => e = .returned (.bool (Sh.P.serves s.cs c.2.1 b.cat)) ∧ Below W.heap.size W w') := fun W hW => doesServe_int s a _ _ W hW h0 ⟨g0, g1⟩ hy
  have HE : Aside (P.elig s b k = (Sh.P.serves s.cs c.2.1 b.cat && P.suits c b)) := by show _ = _; rw [P.elig, ec]
  clear hc g0 g1 hy hm
  obtain ⟨legs, souls, cs, bs⟩ := s
  obtain ⟨cao, bao, cc, bc⟩ := a
  simp only at *
  subst ebao
  obtain ⟨x0, x1, x2, x3, x4, x5, x6, x7, x8, x9, x10⟩ := hbx
  obtain ⟨v0, v1, v2, v3⟩ := hvx
  simp only at v0 v1 v2 v3
  have hs2 := hs.below hbt
  generalize hW : W.two w { legs := legs, souls := souls, cs := cs, bs := bs } { cao := cao, bao := some ⟨bb, off, none⟩, cc := cc, bc := bc } b fo fc = W0 at *
  have hW' : (w.alloc (.cells #[.int .i64 legs, .int .i64 souls, .slice cao cs.length cc, .slice (some ⟨bb, off, none⟩) bs.length bc] 25)).alloc (.cells #[.int .i64 b.id, .int .i64 b.kind, .int .i64 b.state, .int .i64 b.guests, .bool b.level, .int .i64 b.cabin, .int .i64 b.cat, .int .i64 b.frm, .int .i64 b.to, .int .i64 b.til, .slice fo b.fol.length fc] 37) = W0 := hW
  have r0 := cell_regrown x0
  have r1 := cell_regrown x1
  have r2 := cell_regrown x2
  have r3 := cell_regrown x3
  have r4 := cell_regrown x4
  have r5 := cell_regrown x5
  have r6 := cell_regrown x6
  have r7 := cell_regrown x7
  have r8 := cell_regrown x8
  have r9 := cell_regrown x9
  have r10 := cell_regrown x10
  have t0 := cell_regrown v0
  have t1 := cell_regrown v1
  have t2 := cell_regrown v2
  have t3 := cell_regrown v3
  have u0 := cell_regrown q0
  have u1 := cell_regrown q1
  have u2 := cell_regrown q2
  have u3 := cell_regrown q3
  clear x0 x1 x2 x3 x4 x5 x6 x7 x8 x9 x10 v0 v1 v2 v3 q0 q1 q2 q3
  cases hsu : P.suits c b
  · go_enter Tryz.func91, Tryz.ntmps91
    go_wp2
    try rw [hW']
    refine wp_region_quiet_below (by kernel_rfl) (by kernel_rfl) (Qt.out ?_)
    repeat (refine Qt.step (fun K hK => ?_); go_simp; first | (refine hK _ ?_; clear hK K) | (apply Exists.intro; refine ⟨fun _ => ?_, hK _ ?_⟩; (first | (go_at_call 128; exact Calls.regrown_of (v := .bool false) (doesFit_is c b fo fc _ _ hsu)) | (go_at_call 144; exact Calls.regrown_of (v := .bool (Sh.P.serves cs c.2.1 b.cat)) (HS.out _ (hs2.below (below_regrown _ _ _))))); clear hK K))
    refine Qt.fin ?_
    intro w2 hw2
    obtain ⟨⟨dq, osq⟩, hw2⟩ := hw2
    have hb2 := below_regrown W0 dq osq
    rw [← hw2] at hb2
    clear hw2 r0 r1 r2 r3 r4 r5 r6 r7 r8 r9 r10 t0 t1 t2 t3 u0 u1 u2 u3
    go_wp2
    go_ret
    exact ⟨ret_bool (by rw [HE.out, hsu]; simp), bvia hbt hb2⟩
  · go_enter Tryz.func91, Tryz.ntmps91
    go_wp2
    try rw [hW']
    refine wp_region_quiet_below (by kernel_rfl) (by kernel_rfl) (Qt.out ?_)
    repeat (refine Qt.step (fun K hK => ?_); go_simp; first | (refine hK _ ?_; clear hK K) | (apply Exists.intro; refine ⟨fun _ => ?_, hK _ ?_⟩; (first | (go_at_call 128; exact Calls.regrown_of (v := .bool true) (doesFit_is c b fo fc _ _ hsu)) | (go_at_call 144; exact Calls.regrown_of (v := .bool (Sh.P.serves cs c.2.1 b.cat)) (HS.out _ (hs2.below (below_regrown _ _ _))))); clear hK K))
    refine Qt.fin ?_
    intro w2 hw2
    obtain ⟨⟨dq, osq⟩, hw2⟩ := hw2
    have hb2 := below_regrown W0 dq osq
    rw [← hw2] at hb2
    clear hw2 r0 r1 r2 r3 r4 r5 r6 r7 r8 r9 r10 t0 t1 t2 t3 u0 u1 u2 u3
    go_wp2
    go_ret
    exact ⟨ret_bool (by rw [HE.out, hsu]; simp), bvia hbt hb2⟩

end Go.Proofs.YtlamhfbdeinkkaeGreat.Bk

/- The reference: CheckBooking. -/
namespace Go.Proofs.YtlamhfbdeinkkaeGreat.Bk
open Go.RowKit
set_option linter.unusedSimpArgs false
set_option linter.unusedVariables false

theorem namedE_low {s : Vsl} {b : Bkg} (h : P.cabB s b.cabin = false) : P.namedE s b = 3 := by rw [P.namedE, if_neg (by simp [h])]
theorem namedE_cat {s : Vsl} {b : Bkg} (h : P.cabB s b.cabin = true) (h6 : (b.cat == 0) = false) : P.namedE s b = 1 := by rw [P.namedE, if_pos h, if_neg (by simpa using h6)]
theorem namedE_fit {s : Vsl} {b : Bkg} (h : P.cabB s b.cabin = true) (h6 : (b.cat == 0) = true) : P.namedE s b = if P.suits (P.cabAt s b.cabin) b = true then 0 else 4 := by rw [P.namedE, if_pos h, if_pos (by simpa using h6)]
theorem kindE_1 {s : Vsl} {b : Bkg} (h : (b.kind == 1) = true) : P.kindE s b = P.namedE s b := by rw [P.kindE, if_pos (by simpa using h)]
theorem kindE_2 {s : Vsl} {b : Bkg} (h : (b.kind == 1) = false) : P.kindE s b = P.promE s b := by rw [P.kindE, if_neg (by simpa using h)]
theorem cabB_low {s : Vsl} {n : Int} (h : n < 0) : P.cabB s n = false := by simp [P.cabB, P.btw]; omega
theorem cabB_high {s : Vsl} {n : Int} (h : (s.bs.length : Int) ≤ n) : P.cabB s n = false := by simp [P.cabB, P.btw]; omega
theorem cabB_in {s : Vsl} {n : Int} (h0 : ¬ n < 0) (h : n < s.bs.length) : P.cabB s n = true := by simp [P.cabB, P.btw]; omega

set_option maxHeartbeats 4000000 in
theorem refBk_early (s : Vsl) (a : VslA) (b : Bkg) (fo : Option Addr) (fc : Nat) (w : World) (hs : VslAt w s a) (h0 : P.shp s = 0)
    (h : (P.btw b.kind 1 2 && P.btw b.state 1 3) = false ∨ (P.btw b.id 1 999999 && P.btw b.guests 1 4) = false ∨ (P.chk b.frm b.to s.legs != 0) = true) :
    Calls Tryz.prog 75 #[V.vsl s a, V.bk b fo fc] w fun e w' => e = .returned (.int .i64 (P.bkE s b)) ∧ Below w.heap.size w w' := by
  have hbt := two_below w s a b fo fc
  cases hk : P.btw b.kind 1 2
  · have HE : Aside (P.bkE s b = 7) := bkE_kind (by rw [hk]; rfl)
    go_enter Tryz.func75, Tryz.ntmps75
    go_wp2_with (go_at_call 74; refine (between_any _ _ _ _).mono ?_; rintro e w1 ⟨rfl, rfl⟩; first | rw [hk])
    go_ret
    exact ⟨ret_int HE.out.symm, hbt⟩
  cases hst : P.btw b.state 1 3
  · have HE : Aside (P.bkE s b = 7) := bkE_kind (by rw [hk, hst]; rfl)
    go_enter Tryz.func75, Tryz.ntmps75
    go_wp2_with (go_at_call 74; refine (between_any _ _ _ _).mono ?_; rintro e w1 ⟨rfl, rfl⟩; first | rw [hk] | rw [hst])
    go_ret
    exact ⟨ret_int HE.out.symm, hbt⟩
  have H1 : Aside ((P.btw b.kind 1 2 && P.btw b.state 1 3) = true) := by show _ = _; rw [hk, hst]; rfl
  cases hid : P.btw b.id 1 999999
  · have HE : Aside (P.bkE s b = 3) := bkE_range H1.out (by rw [hid]; rfl)
    go_enter Tryz.func75, Tryz.ntmps75
    go_wp2_with (go_at_call 74; refine (between_any _ _ _ _).mono ?_; rintro e w1 ⟨rfl, rfl⟩; first | rw [hk] | rw [hst] | rw [hid])
    go_ret
    exact ⟨ret_int HE.out.symm, hbt⟩
  cases hg : P.btw b.guests 1 4
  · have HE : Aside (P.bkE s b = 3) := bkE_range H1.out (by rw [hid, hg]; rfl)
    go_enter Tryz.func75, Tryz.ntmps75
    go_wp2_with (go_at_call 74; refine (between_any _ _ _ _).mono ?_; rintro e w1 ⟨rfl, rfl⟩; first | rw [hk] | rw [hst] | rw [hid] | rw [hg])
    go_ret
    exact ⟨ret_int HE.out.symm, hbt⟩
  have H2 : Aside ((P.btw b.id 1 999999 && P.btw b.guests 1 4) = true) := by show _ = _; rw [hid, hg]; rfl
  have hz : (P.chk b.frm b.to s.legs != 0) = true := by
    rcases h with h | h | h
    · rw [hk, hst] at h; cases h
    · rw [hid, hg] at h; cases h
    · exact h
  clear h
  have HE : Aside (P.bkE s b = P.chk b.frm b.to s.legs) := bkE_span H1.out H2.out hz
  go_enter Tryz.func75, Tryz.ntmps75
  go_wp2_with (first
    | (go_at_call 74; refine (between_any _ _ _ _).mono ?_; rintro e w1 ⟨rfl, rfl⟩; first | rw [hk] | rw [hst] | rw [hid] | rw [hg])
    | (go_at_call 127; refine (Sp.checkSpan_any _ _ _ _).mono ?_; rintro e w1 ⟨rfl, hb1⟩))
  go_ret
  exact ⟨ret_int HE.out.symm, bvia hbt hb1⟩

/-- What is asked behind the kind. -/
def P.tailE (b : Bkg) : Int := if P.btw b.til 0 9999 = true then (if b.til ≠ 0 ∧ b.state ≠ 1 then 1 else Fo.P.folE b.fol) else 3
theorem bkE_tail {s : Vsl} {b : Bkg} (h : (P.btw b.kind 1 2 && P.btw b.state 1 3) = true) (h1 : (P.btw b.id 1 999999 && P.btw b.guests 1 4) = true) (h2 : (P.chk b.frm b.to s.legs != 0) = false) (h3 : P.kindE s b = 0) : P.bkE s b = P.tailE b := by
  rw [P.bkE, if_pos h, if_pos h1, if_pos (by simpa using h2), if_pos h3]; rfl
theorem tail_3 {b : Bkg} (h : P.btw b.til 0 9999 = false) : P.tailE b = 3 := by rw [P.tailE, if_neg (by simp [h])]
theorem tail_1 {b : Bkg} (h : P.btw b.til 0 9999 = true) (h1 : (b.til != 0) = true) (h2 : (b.state != 1) = true) : P.tailE b = 1 := by rw [P.tailE, if_pos h, if_pos (by simpa using And.intro h1 h2)]
theorem tail_f {b : Bkg} (h : P.btw b.til 0 9999 = true) (h1 : (b.til != 0) = true) (h2 : (b.state != 1) = false) : P.tailE b = Fo.P.folE b.fol := by rw [P.tailE, if_pos h, if_neg (by simp at h2; simp [h2])]
theorem tail_0 {b : Bkg} (h : P.btw b.til 0 9999 = true) (h1 : (b.til != 0) = false) : P.tailE b = Fo.P.folE b.fol := by rw [P.tailE, if_pos h, if_neg (by simp at h1; simp [h1])]

set_option maxHeartbeats 8000000 in
theorem refBk_named (s : Vsl) (a : VslA) (b : Bkg) (fo : Option Addr) (fc : Nat) (w : World) (hs : VslAt w s a) (hf : Fo.EntsAt w fo fc b.fol) (h0 : P.shp s = 0)
    (h1 : (P.btw b.kind 1 2 && P.btw b.state 1 3) = true) (h2 : (P.btw b.id 1 999999 && P.btw b.guests 1 4) = true) (hz : (P.chk b.frm b.to s.legs != 0) = false) (hkd : (b.kind == 1) = true) :
    Calls Tryz.prog 75 #[V.vsl s a, V.bk b fo fc] w fun e w' => e = .returned (.int .i64 (P.bkE s b)) ∧ Below w.heap.size w w' := by
  obtain ⟨_, _, _, _, _, _, _, hbs⟩ := shp_size h0
  have hbt := two_below w s a b fo fc
  have hbx := two_b w s a b fo fc
  have hvx := two_v w s a b fo fc
  have H1 : Aside ((P.btw b.kind 1 2 && P.btw b.state 1 3) = true) := h1
  have H2 : Aside ((P.btw b.id 1 999999 && P.btw b.guests 1 4) = true) := h2
  obtain ⟨hk, hst⟩ := Bool.and_eq_true_iff.1 h1
  obtain ⟨hid, hg⟩ := Bool.and_eq_true_iff.1 h2
  have HK : Aside (P.kindE s b = P.namedE s b) := kindE_1 hkd
  clear h1 h2
  by_cases hc0 : b.cabin < 0
  · have HE : Aside (P.bkE s b = 3) := by
      have e : P.kindE s b = 3 := HK.out.trans (namedE_low (cabB_low hc0))
      show _ = _; rw [bkE_kindE H1.out H2.out hz (by rw [e]; rfl), e]
    go_enter Tryz.func75, Tryz.ntmps75
    go_wp2_with (first
      | (go_at_call 74; refine (between_any _ _ _ _).mono ?_; rintro e w1 ⟨rfl, rfl⟩; first | rw [hk] | rw [hst] | rw [hid] | rw [hg])
      | (go_at_call 127; refine (Sp.checkSpan_any _ _ _ _).mono ?_; rintro e w1 ⟨rfl, hb1⟩; obtain ⟨x0, x1, x2, x3, x4, x5, x6, x7, x8, x9, x10⟩ := hbx.below hb1; obtain ⟨v0, v1, v2, v3⟩ := hvx.below hb1))
    go_ret
    exact ⟨ret_int HE.out.symm, bvia hbt hb1⟩
  by_cases hc1 : b.cabin < s.bs.length
  rotate_left
  · have hc2 : (s.bs.length : Int) ≤ b.cabin := by omega
    have HE : Aside (P.bkE s b = 3) := by
      have e : P.kindE s b = 3 := HK.out.trans (namedE_low (cabB_high hc2))
      show _ = _; rw [bkE_kindE H1.out H2.out hz (by rw [e]; rfl), e]
    go_enter Tryz.func75, Tryz.ntmps75
    go_wp2_with (first
      | (go_at_call 74; refine (between_any _ _ _ _).mono ?_; rintro e w1 ⟨rfl, rfl⟩; first | rw [hk] | rw [hst] | rw [hid] | rw [hg])
      | (go_at_call 127; refine (Sp.checkSpan_any _ _ _ _).mono ?_; rintro e w1 ⟨rfl, hb1⟩; obtain ⟨x0, x1, x2, x3, x4, x5, x6, x7, x8, x9, x10⟩ := hbx.below hb1; obtain ⟨v0, v1, v2, v3⟩ := hvx.below hb1))
    go_ret
    exact ⟨ret_int HE.out.symm, bvia hbt hb1⟩
  have hc := cabB_in hc0 hc1
  cases h6 : (b.cat == 0)
  · have h6' : (b.cat != 0) = true := by simpa using h6
    have HE : Aside (P.bkE s b = 1) := by
      have e : P.kindE s b = 1 := HK.out.trans (namedE_cat hc h6)
      show _ = _; rw [bkE_kindE H1.out H2.out hz (by rw [e]; rfl), e]
    clear hc
    go_enter Tryz.func75, Tryz.ntmps75
    go_wp2_with (first
      | (go_at_call 74; refine (between_any _ _ _ _).mono ?_; rintro e w1 ⟨rfl, rfl⟩; first | rw [hk] | rw [hst] | rw [hid] | rw [hg])
      | (go_at_call 127; refine (Sp.checkSpan_any _ _ _ _).mono ?_; rintro e w1 ⟨rfl, hb1⟩; obtain ⟨x0, x1, x2, x3, x4, x5, x6, x7, x8, x9, x10⟩ := hbx.below hb1; obtain ⟨v0, v1, v2, v3⟩ := hvx.below hb1))
    go_ret
    exact ⟨ret_int HE.out.symm, bvia hbt hb1⟩
  have h6' : (b.cat != 0) = false := by simpa using h6
  have HN : Aside (P.kindE s b = if P.suits (P.cabAt s b.cabin) b = true then 0 else 4) := HK.out.trans (namedE_fit hc h6)
  have HC : Aside (P.cabB s b.cabin = true) := hc
  clear hc h6
  go_enter Tryz.func75, Tryz.ntmps75
  go_wp2_with (first
    | (go_at_call 74; refine (between_any _ _ _ _).mono ?_; rintro e w1 ⟨rfl, rfl⟩; first | rw [hk] | rw [hst] | rw [hid] | rw [hg])
    | (go_at_call 127; refine (Sp.checkSpan_any _ _ _ _).mono ?_; rintro e w1 ⟨rfl, hb1⟩; obtain ⟨x0, x1, x2, x3, x4, x5, x6, x7, x8, x9, x10⟩ := hbx.below hb1; obtain ⟨v0, v1, v2, v3⟩ := hvx.below hb1))
  have hB1 : Below w.heap.size w w1 := bvia hbt hb1
  have HX : Aside (BBox w1 (w.heap.size + 1) b fo fc) := hbx.below hb1
  obtain ⟨k, bb, off, c, ek, hkk, ec, _, ebao, q0, q1, q2, q3⟩ := cab_get hs hB1 HC.out
  rw [ec] at HN
  have hk1 : (k : Int) < s.bs.length := by omega
  have hk2 : (0 : Int) ≤ k := by omega
  rw [ebao] at v3
  have EK : Aside (b.cabin = k) := ek
  rw [ek] at x5
  have r0 := cell_regrown x0
  have r1 := cell_regrown x1
  have r2 := cell_regrown x2
  have r3 := cell_regrown x3
  have r4 := cell_regrown x4
  have r5 := cell_regrown x5
  have r6 := cell_regrown x6
  have r7 := cell_regrown x7
  have r8 := cell_regrown x8
  have r9 := cell_regrown x9
  have r10 := cell_regrown x10
  have t0 := cell_regrown v0
  have t1 := cell_regrown v1
  have t2 := cell_regrown v2
  have t3 := cell_regrown v3
  have u0 := cell_regrown q0
  have u1 := cell_regrown q1
  have u2 := cell_regrown q2
  have u3 := cell_regrown q3
  clear hc0 hc1 ek x0 x1 x2 x3 x4 x5 x6 x7 x8 x9 x10 v0 v1 v2 v3 q0 q1 q2 q3 hbx hvx hbt hb1
  refine wp_region_quiet_below (by kernel_rfl) (by kernel_rfl) (Qt.out ?_)
  repeat (refine Qt.step (fun K hK => ?_); go_simp; first | (refine hK _ ?_; clear hK K) | (apply Exists.intro; refine ⟨fun _ => ?_, hK _ ?_⟩; (go_at_call 128; exact Calls.regrown_of (v := .bool (P.suits c b)) ((by rw [← EK.out]; exact doesFit_any c b fo fc _))); clear hK K))
  refine Qt.fin ?_
  intro w2 hw2
  obtain ⟨⟨dq, osq⟩, hw2⟩ := hw2
  have hb2 := below_regrown w1 dq osq
  rw [← hw2] at hb2
  have hB2 := bvia hB1 hb2
  clear hw2 r0 r1 r2 r3 r4 r5 r6 r7 r8 r9 r10 t0 t1 t2 t3 u0 u1 u2 u3
  obtain ⟨x0, x1, x2, x3, x4, x5, x6, x7, x8, x9, x10⟩ := HX.out.below hb2
  clear hb2 HX hB1
  cases hsu : P.suits c b
  · have HE : Aside (P.bkE s b = 4) := by
      have e : P.kindE s b = 4 := by rw [HN.out, hsu]; rfl
      show _ = _; rw [bkE_kindE H1.out H2.out hz (by rw [e]; rfl), e]
    go_wp2
    go_ret
    exact ⟨ret_int HE.out.symm, hB2⟩
  have HT : Aside (P.bkE s b = P.tailE b) := bkE_tail H1.out H2.out hz (by rw [HN.out, hsu]; rfl)
  cases ht : P.btw b.til 0 9999
  · have HE : Aside (P.bkE s b = 3) := HT.out.trans (tail_3 ht)
    go_wp2_with (go_at_call 74; refine (between_any _ _ _ _).mono ?_; rintro e w1 ⟨rfl, rfl⟩; rw [ht])
    go_ret
    exact ⟨ret_int HE.out.symm, hB2⟩
  cases hu : (b.til != 0)
  · have HE : Aside (P.bkE s b = Fo.P.folE b.fol) := HT.out.trans (tail_0 ht hu)
    go_wp2_with (first
      | (go_at_call 74; refine (between_any _ _ _ _).mono ?_; rintro e w1 ⟨rfl, rfl⟩; rw [ht])
      | (go_at_call 80; refine (Fo.checkFolio_any fo fc b.fol _ (SlAt.below Fo.REnt.mono hf hB2)).mono ?_; rintro e w3 ⟨rfl, hb3⟩))
    go_ret
    exact ⟨ret_int HE.out.symm, bvia hB2 hb3⟩
  cases hv : (b.state != 1)
  · have HE : Aside (P.bkE s b = Fo.P.folE b.fol) := HT.out.trans (tail_f ht hu hv)
    go_wp2_with (first
      | (go_at_call 74; refine (between_any _ _ _ _).mono ?_; rintro e w1 ⟨rfl, rfl⟩; rw [ht])
      | (go_at_call 80; refine (Fo.checkFolio_any fo fc b.fol _ (SlAt.below Fo.REnt.mono hf hB2)).mono ?_; rintro e w3 ⟨rfl, hb3⟩))
    go_ret
    exact ⟨ret_int HE.out.symm, bvia hB2 hb3⟩
  · have HE : Aside (P.bkE s b = 1) := HT.out.trans (tail_1 ht hu hv)
    go_wp2_with (go_at_call 74; refine (between_any _ _ _ _).mono ?_; rintro e w1 ⟨rfl, rfl⟩; rw [ht])
    go_ret
    exact ⟨ret_int HE.out.symm, hB2⟩

end Go.Proofs.YtlamhfbdeinkkaeGreat.Bk
