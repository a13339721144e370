import Derived.Test.YtlamhfbdeinkkaeGreatBoAo
set_option maxRecDepth 10000
/- The walk of checkAll. -/
namespace Go.Proofs.YtlamhfbdeinkkaeGreat.Bk
open Go.RowKit
set_option linter.unusedSimpArgs false
set_option linter.unusedVariables false

/-- G2: bookings of a ship that is right, one by one. -/
def P.bksE (s : Vsl) : List Bkg → Int
  | [] => 0
  | b :: t => if P.bkE s b = 0 then P.bksE s t else P.bkE s b
def P.allE (s : Vsl) (l : List Bkg) : Int := if P.shp s = 0 then P.bksE s l else P.shp s

theorem bks_bad {s : Vsl} {l : List Bkg} {x : Bkg} {k : Nat} (hP : P.bksE s (l.drop k) = P.bksE s l) (hD : l.drop k = x :: l.drop (k + 1)) (h : (P.bkE s x != 0) = true) : P.bksE s l = P.bkE s x := by
  rw [← hP, hD, P.bksE, if_neg (by simpa using h)]
theorem bks_on {s : Vsl} {l : List Bkg} {x : Bkg} {k : Nat} (hP : P.bksE s (l.drop k) = P.bksE s l) (hD : l.drop k = x :: l.drop (k + 1)) (h : (P.bkE s x != 0) = false) : P.bksE s (l.drop (k + 1)) = P.bksE s l := by
  rw [← hP, hD, P.bksE, if_pos (by simpa using h)]
theorem bks_end {s : Vsl} {l : List Bkg} (hP : P.bksE s (l.drop l.length) = P.bksE s l) : P.bksE s l = 0 := by
  rw [← hP, List.drop_of_length_le (Nat.le_refl _)]; rfl
theorem bks_ok {s : Vsl} {l : List Bkg} (h : P.bksE s l = 0) : ∀ b ∈ l, P.bkE s b = 0 := by
  induction l with
  | nil => simp
  | cons b t ih =>
    rw [P.bksE] at h
    split at h
    · rename_i hb
      intro x hx
      rcases List.mem_cons.1 hx with rfl | hx
      · exact hb
      · exact ih h x hx
    · contradiction
theorem all_ok {s : Vsl} {l : List Bkg} (h : P.allE s l = 0) : P.shp s = 0 ∧ ∀ b ∈ l, P.bkE s b = 0 := by
  unfold P.allE at h
  split at h
  · exact ⟨by assumption, bks_ok h⟩
  · contradiction

set_option maxHeartbeats 4000000 in
theorem checkAll_any (s : Vsl) (a : VslA) (ao : Option Addr) (cap : Nat) (l : List Bkg) (w : World) (hs : VslAt w s a) (hl : BksAt w ao cap l) :
    Calls Tryz.prog 149 #[V.vsl s a, .slice ao l.length cap] w fun e w' => e = .returned (.int .i64 (P.allE s l)) ∧ Below w.heap.size w w' := by
  have hle := hl.le
  have hmx := hl.max
  unfold maxLen at hmx
  have hvx := VBox.new w s a
  have hbt : Below w.heap.size w (w.alloc (.cells #[.int .i64 s.legs, .int .i64 s.souls, .slice a.cao s.cs.length a.cc, .slice a.bao s.bs.length a.bc] 25)) := by go_grown
  cases hz : (P.shp s != 0)
  · have hz0 : P.shp s = 0 := by simpa using hz
    have HE : Aside (P.allE s l = P.bksE s l) := by show _ = _; rw [P.allE, if_pos hz0]
    have HZ : Aside (P.shp s = 0) := hz0
    clear hz0
    go_enter Tryz.func149, Tryz.ntmps149
    go_wp2_with (go_at_call 104; refine (shp_any s a _ (hs.below hbt)).mono ?_; rintro e w1 ⟨rfl, hb1⟩)
    go_loopg [16] l.length (fun g i wr => ∃ (k : Nat), k ≤ l.length ∧ g = l.length - k ∧ i = .int .i64 k ∧ P.bksE s (l.drop k) = P.bksE s l ∧ VBox wr w.heap.size s a ∧ w.heap.size < wr.heap.size ∧ Below w.heap.size w wr)
    case atStart => exact ⟨0, Nat.zero_le _, rfl, rfl, rfl, hvx.below hb1, by have := hb1.size; simp at this; omega, bvia hbt hb1⟩
    case round =>
      obtain ⟨k, hk, rfl, rfl, hP, hv, hlw, hB⟩ := hrel
      have HP : Aside (P.bksE s (l.drop k) = P.bksE s l) := hP
      clear hP hvx hbt hb1
      by_cases hlt : k < l.length
      · obtain ⟨b, off, x, fo, fc, rfl, hbw, hd, hx, hfx⟩ := BksAt.get hl hB k hlt
        have HD : Aside (l.drop k = x :: l.drop (k + 1)) := hd
        clear hd
        have hbl : b < wr.heap.size := by omega
        obtain ⟨x0, x1, x2, x3, x4, x5, x6, x7, x8, x9, x10⟩ := hx
        have HV : Aside (VBox wr w.heap.size s a) := hv
        obtain ⟨v0, v1, v2, v3⟩ := hv
        go_wp2_with (go_at_call 124; refine (checkOn_any s a x fo fc _ (hs.below (bvia hB (by go_grown))) (SlAt.below Fo.REnt.mono hfx (by go_grown)) HZ.out).mono ?_; rintro e w2 ⟨rfl, hb2⟩)
        · go_ret
          exact ⟨ret_int (by rw [HE.out, bks_bad HP.out HD.out ‹_›]), bvia (bvia hB (by go_grown)) hb2⟩
        · go_roundg (l.length - (k + 1))
          case measure => omega
          case rel => exact ⟨k + 1, by omega, rfl, by go_num, bks_on HP.out HD.out ‹_›, (HV.out.below (by go_grown)).below hb2, by have := hb2.size; simp at this; omega, bvia (bvia hB (by go_grown)) hb2⟩
      · have : k = l.length := by omega
        subst this
        go_wp2
        go_ret
        exact ⟨ret_int (by rw [HE.out, bks_end HP.out]), hB⟩
  · have HE : Aside (P.allE s l = P.shp s) := by show _ = _; rw [P.allE, if_neg (by simpa using hz)]
    go_enter Tryz.func149, Tryz.ntmps149
    go_wp2_with (go_at_call 104; refine (shp_any s a _ (hs.below hbt)).mono ?_; rintro e w1 ⟨rfl, hb1⟩)
    go_ret
    exact ⟨ret_int HE.out.symm, bvia hbt hb1⟩

end Go.Proofs.YtlamhfbdeinkkaeGreat.Bk

/- Bookings with where their folios lie; spans of a cabin, souls on a leg, as plain functions. -/
namespace Go.Proofs.YtlamhfbdeinkkaeGreat.Bk
open Go.RowKit
set_option linter.unusedSimpArgs false
set_option linter.unusedVariables false

/-- A booking, and where its folio lies. -/
abbrev BkV := Bkg × Option Addr × Nat
abbrev V.bkv (x : BkV) : Value := V.bk x.1 x.2.1 x.2.2
abbrev cellsV (x : BkV) : List Value := cellsBk x.1 x.2.1 x.2.2
def RBkV (w : World) (x : BkV) (cs : List Value) : Prop := cs = cellsV x ∧ Fo.EntsAt w x.2.1 x.2.2 x.1.fol
theorem RBkV.mono : Mono RBkV := fun w w' x cs hb ⟨h1, h2⟩ => ⟨h1, SlAt.below Fo.REnt.mono h2 hb⟩
abbrev BkVsAt (w : World) (ao : Option Addr) (cap : Nat) (l : List BkV) : Prop := SlAt RBkV 11 w ao cap l

theorem BksAt.pick {w : World} {ao : Option Addr} {cap : Nat} {l : List Bkg} (h : BksAt w ao cap l) : ∃ lv : List BkV, lv.map (·.1) = l ∧ BkVsAt w ao cap lv := by
  rcases Nat.eq_zero_or_pos l.length with h0 | h0
  · obtain rfl : l = [] := List.eq_nil_of_length_eq_zero h0
    exact ⟨[], rfl, by simp, h.max, h.nil, fun h => by simp at h⟩
  · obtain ⟨b, off, rfl, hlt, hc⟩ := h.cells h0
    have each : ∀ i, i < l.length → ∃ q : BkV, l[i]? = some q.1 ∧ Fo.EntsAt w q.2.1 q.2.2 q.1.fol ∧ ∀ j u, (cellsV q)[j]? = some u → w.cell? ⟨b, off + i * 11 + j, none⟩ = some u := by
      intro i hi
      obtain ⟨cs, ⟨fo, fc, rfl, h2⟩, _, h3⟩ := hc i hi
      exact ⟨(l[i], fo, fc), by simp [hi], h2, h3⟩
    haveI : Inhabited BkV := ⟨(⟨0, 0, 0, 0, false, 0, 0, 0, 0, 0, []⟩, none, 0)⟩
    obtain ⟨q, hq⟩ := Go.Deep.choose_lt each
    refine ⟨(List.range l.length).map q, ?_, by simpa using h.le, h.max, h.nil, fun _ => ⟨b, off, rfl, hlt, fun i hi => ?_⟩⟩
    · refine List.ext_getElem? fun i => ?_
      rcases Nat.lt_or_ge i l.length with hi | hi
      · rw [(hq i hi).1]; simp [hi]
      · rw [List.getElem?_eq_none hi, List.getElem?_eq_none (by simpa using hi)]
    · simp at hi
      obtain ⟨_, r2, r3⟩ := hq i hi
      refine ⟨cellsV (q i), ⟨by simp, by simpa using r2⟩, rfl, r3⟩

theorem BkVsAt.all {w : World} {ao : Option Addr} {cap : Nat} {lv : List BkV} (h : BkVsAt w ao cap lv) : BksAt w ao cap (lv.map (·.1)) := by
  refine ⟨by simpa using h.le, h.max, h.nil, fun h0 => ?_⟩
  simp at h0
  obtain ⟨b, off, rfl, hlt, hc⟩ := h.cells h0
  refine ⟨b, off, rfl, hlt, fun i hi => ?_⟩
  simp at hi
  obtain ⟨cs, ⟨h1, h2⟩, h3, h4⟩ := hc i hi
  exact ⟨cs, ⟨_, _, by simpa using h1, by simpa using h2⟩, h3, h4⟩

theorem BkVsAt.get {w w' : World} {ao : Option Addr} {cap : Nat} {l : List BkV} (h : BkVsAt w ao cap l) (hb : Below w.heap.size w w') (k : Nat) (hk : k < l.length) :
    ∃ b off x, ao = some ⟨b, off, none⟩ ∧ b < w.heap.size ∧ l.drop k = x :: l.drop (k + 1) ∧ BkAt w' b (off + k * 11) x.1 x.2.1 x.2.2 ∧ Fo.EntsAt w' x.2.1 x.2.2 x.1.fol := by
  obtain ⟨b, off, x, cs, h1, h2, h3, ⟨rfl, h4⟩, h5, h6⟩ := SlAt.get RBkV.mono h hb k hk
  exact ⟨b, off, x, h1, h2, h3, ⟨h6 0 _ rfl, h6 1 _ rfl, h6 2 _ rfl, h6 3 _ rfl, h6 4 _ rfl, h6 5 _ rfl, h6 6 _ rfl, h6 7 _ rfl, h6 8 _ rfl, h6 9 _ rfl, h6 10 _ rfl⟩, h4⟩

/-- Has a live booking the cabin? -/
def P.hasC (cabin : Int) (b : Bkg) : Bool := P.live b && decide (b.cabin = cabin)
/-- Spans that are added, one by one. -/
def P.addsE (n : Int) : List (Int × Int) → List (Int × Int) → Int
  | _, [] => 0
  | acc, x :: r => if Sp.P.addE acc n x.1 x.2 = 0 then P.addsE n (Sp.P.addL acc n x.1 x.2) r else Sp.P.addE acc n x.1 x.2
def P.addsL (n : Int) : List (Int × Int) → List (Int × Int) → List (Int × Int)
  | acc, [] => acc
  | acc, x :: r => if Sp.P.addE acc n x.1 x.2 = 0 then P.addsL n (Sp.P.addL acc n x.1 x.2) r else []
abbrev P.spn (b : Bkg) : Int × Int := (b.frm, b.to)
/-- The spans of who has the cabin. -/
def P.mine (cabin : Int) (l : List Bkg) : List (Int × Int) := (l.filter (P.hasC cabin)).map P.spn
/-- G2: Spans. -/
def P.spE (s : Vsl) (l : List Bkg) (cabin : Int) : Int := if P.allE s l = 0 then (if P.cabB s cabin = true then P.addsE s.legs [] (P.mine cabin l) else 3) else P.allE s l
def P.spL (s : Vsl) (l : List Bkg) (cabin : Int) : List (Int × Int) := if P.allE s l = 0 then (if P.cabB s cabin = true then P.addsL s.legs [] (P.mine cabin l) else []) else []

/-- G2: Souls. -/
def P.onLeg (k : Int) (b : Bkg) : Int := if (P.live b && P.btw k b.frm (b.to - 1)) = true then b.guests else 0
def P.soul (k : Int) : List Bkg → Int
  | [] => 0
  | b :: t => P.onLeg k b + P.soul k t
def P.soulsL (n : Nat) (l : List Bkg) : List Int := (List.range n).map fun k => P.soul (k : Nat) l
def P.over (l : List Int) : Bool := l.any fun n => decide (60 < n)
def P.soE (s : Vsl) (l : List Bkg) : Int := if P.allE s l = 0 then (if P.over (P.soulsL s.legs.toNat l) = true then 2 else 0) else P.allE s l
def P.soL (s : Vsl) (l : List Bkg) : List Int := if P.soE s l = 0 then P.soulsL s.legs.toNat l else []

theorem bk_ok {s : Vsl} {b : Bkg} (h : P.bkE s b = 0) : P.chk b.frm b.to s.legs = 0 ∧ 1 ≤ b.guests ∧ b.guests ≤ 4 ∧ 1 ≤ b.id ∧ b.id ≤ 999999 ∧ P.kindE s b = 0 ∧ (b.kind = 1 ∨ b.kind = 2) ∧ (b.state = 1 ∨ b.state = 2 ∨ b.state = 3) ∧ Fo.P.folE b.fol = 0 := by
  unfold P.bkE at h
  split at h
  · rename_i h1
    split at h
    · rename_i h2
      split at h
      · rename_i h3
        split at h
        · rename_i h4
          split at h
          · split at h
            · omega
            · simp [P.btw] at h1 h2
              refine ⟨h3, by omega, by omega, by omega, by omega, h4, by omega, by omega, h⟩
          · omega
        · contradiction
      · contradiction
    · omega
  · omega

theorem kind_named {s : Vsl} {b : Bkg} (h : P.kindE s b = 0) (hk : b.kind = 1) : P.cabB s b.cabin = true := by
  rw [P.kindE, if_pos hk] at h
  unfold P.namedE at h
  split at h
  · assumption
  · omega
theorem kind_prom {s : Vsl} {b : Bkg} (h : P.kindE s b = 0) (hk : b.kind = 2) : 0 ≤ b.cat ∧ b.cat < s.cs.length ∧ b.frm = 0 ∧ b.to = s.legs ∧ (b.cabin = -1 ∨ (P.cabB s b.cabin = true ∧ P.elig s b b.cabin = true)) := by
  rw [P.kindE, if_neg (by omega)] at h
  unfold P.promE at h
  split at h
  · rename_i h1
    split at h
    · rename_i h2
      simp [P.btw] at h1
      refine ⟨by omega, by omega, h2.1, h2.2, ?_⟩
      split at h
      · left; assumption
      · rename_i h3
        split at h
        · rename_i h4
          split at h
          · rename_i h5
            exact .inr ⟨h4, h5⟩
          · omega
        · omega
    · omega
  · omega

theorem onLeg_bd {k : Int} {s : Vsl} {b : Bkg} (h : P.bkE s b = 0) : 0 ≤ P.onLeg k b ∧ P.onLeg k b ≤ 4 := by
  obtain ⟨_, h1, h2, _⟩ := bk_ok h
  unfold P.onLeg
  split <;> omega
theorem soul_bd {k : Int} {s : Vsl} {l : List Bkg} (h : ∀ b ∈ l, P.bkE s b = 0) : 0 ≤ P.soul k l ∧ P.soul k l ≤ 4 * (l.length : Int) := by
  induction l with
  | nil => simp [P.soul]
  | cons b t ih =>
    have h1 := onLeg_bd (k := k) (h b (by simp))
    have h2 := ih (fun x hx => h x (by simp [hx]))
    rw [P.soul, List.length_cons]
    push_cast
    omega
theorem soul_append (k : Int) (l m : List Bkg) : P.soul k (l ++ m) = P.soul k l + P.soul k m := by
  induction l with
  | nil => simp [P.soul]
  | cons b t ih => rw [List.cons_append, P.soul, P.soul, ih]; omega
theorem soul_snoc (k : Int) (l : List Bkg) (b : Bkg) : P.soul k (l ++ [b]) = P.soul k l + P.onLeg k b := by
  rw [soul_append, P.soul, P.soul]; omega
theorem onLeg_gone {k : Int} {b : Bkg} (h : P.live b = false) : P.onLeg k b = 0 := by simp [P.onLeg, h]
/-- What was added is a calendar. -/
theorem adds_cal {n : Int} {acc r : List (Int × Int)} (h : Sp.P.calendar acc n = 0) (h0 : P.addsE n acc r = 0) : Sp.P.calendar (P.addsL n acc r) n = 0 := by
  induction r generalizing acc with
  | nil => exact h
  | cons x r ih =>
    rw [P.addsE] at h0
    rw [P.addsL]
    split at h0
    · rename_i he
      rw [if_pos he]
      refine ih ?_ h0
      rw [(Sp.add_ok he).2.2.2]
      exact Sp.ins_calendar he
    · contradiction
theorem nil_cal {n : Int} (h : P.sails n = true) : Sp.P.calendar [] n = 0 := by simp [Sp.P.calendar, h, Sp.P.cal]
theorem both_of {acc : List (Int × Int)} {n f t : Int} (h : Sp.P.calendar acc n = 0) (hc : P.chk f t n = 0) : Sp.P.both acc n f t = 0 := by rw [Sp.P.both, if_pos h, hc]
theorem add_06 {acc : List (Int × Int)} {n f t : Int} (h : Sp.P.calendar acc n = 0) (hc : P.chk f t n = 0) : Sp.P.addE acc n f t = 0 ∨ Sp.P.addE acc n f t = 6 := by
  rw [Sp.P.addE, if_pos (both_of h hc)]
  split <;> simp
theorem add_cal {acc : List (Int × Int)} {n f t : Int} (he : Sp.P.addE acc n f t = 0) : Sp.P.calendar (Sp.P.addL acc n f t) n = 0 := by
  rw [(Sp.add_ok he).2.2.2]
  exact Sp.ins_calendar he
theorem adds_06 {n : Int} {acc r : List (Int × Int)} (h : Sp.P.calendar acc n = 0) (hr : ∀ x ∈ r, P.chk x.1 x.2 n = 0) : P.addsE n acc r = 0 ∨ P.addsE n acc r = 6 := by
  induction r generalizing acc with
  | nil => left; rfl
  | cons x r ih =>
    rw [P.addsE]
    split
    · rename_i he
      exact ih (add_cal he) (fun y hy => hr y (by simp [hy]))
    · rename_i he
      rcases add_06 h (hr x (by simp)) with h1 | h1
      · exact absurd h1 he
      · exact .inr h1
theorem addsL_of {n : Int} {acc r : List (Int × Int)} (h : P.addsE n acc r ≠ 0) : P.addsL n acc r = [] := by
  induction r generalizing acc with
  | nil => exact absurd rfl h
  | cons x r ih =>
    rw [P.addsE] at h
    rw [P.addsL]
    split
    · rename_i he
      rw [if_pos he] at h
      exact ih h
    · rfl

end Go.Proofs.YtlamhfbdeinkkaeGreat.Bk

/- The reference: IsEligible, CheckBooking, CheckAll. -/
namespace Go.Proofs.YtlamhfbdeinkkaeGreat.Bk
open Go.RowKit
set_option linter.unusedSimpArgs false
set_option linter.unusedVariables false

/-- 'wpQuiet', shut: so that nothing unfolds it where operations are struck out. -/
structure Qt (P : Program) (ops : Array Oper) (C : World → Prop) (Q : Act → Prop) (l : List Oper) (a : Act) : Prop where
  out : wpQuiet P ops C Q l a
theorem Qt.step {P : Program} {ops : Array Oper} {C : World → Prop} {Q : Act → Prop} {rest : List Oper} {o : Oper} {a : Act}
    (h : ∀ K : Act → Prop, (∀ a, Qt P ops C Q rest a → K a) → if Region.wanted o (yielded ops a.tmps) then o.quiet P a C K else K (a.put o.dst undef)) : Qt P ops C Q (o :: rest) a := ⟨h _ (fun _ h => h.out)⟩
theorem Qt.fin {P : Program} {ops : Array Oper} {C : World → Prop} {Q : Act → Prop} {a : Act} (h : Q a) : Qt P ops C Q [] a := ⟨h⟩

theorem doesServe_int (s : Vsl) (a : VslA) (x y : Int) (w : World) (hs : VslAt w s a) (h0 : P.shp s = 0) (hx : 0 ≤ x ∧ x < s.cs.length) (hy : 0 ≤ y ∧ y < s.cs.length) :
    Calls Tryz.prog 144 #[V.vsl s a, .int .i64 x, .int .i64 y] w fun e w' => e = .returned (.bool (Sh.P.serves s.cs x y)) ∧ Below w.heap.size w w' := by
  obtain ⟨x, rfl⟩ : ∃ k : Nat, x = k := ⟨x.toNat, by omega⟩
  obtain ⟨y, rfl⟩ : ∃ k : Nat, y = k := ⟨y.toNat, by omega⟩
  exact Sh.doesServe_any _ _ _ _ _ _ _ _ x y w hs h0 (by omega) (by omega)

theorem doesFit_is (c : Sh.Cab) (b : Bkg) (fo : Option Addr) (fc : Nat) (w : World) (v : Bool) (h : P.suits c b = v) :
    Calls Tryz.prog 128 #[V.cab c, V.bk b fo fc] w fun e w' => e = .returned (.bool v) ∧ Below w.heap.size w w' := by
  subst h
  exact doesFit_any c b fo fc w

set_option maxHeartbeats 600000 in
theorem isEligible_any (s : Vsl) (a : VslA) (b : Bkg) (fo : Option Addr) (fc : Nat) (n : Int) (w : World) (hs : VslAt w s a) (h0 : P.shp s = 0) (hc : P.cabB s n = true) (hy : 0 ≤ b.cat ∧ b.cat < s.cs.length) :
    Calls Tryz.prog 91 #[V.vsl s a, V.bk b fo fc, .int .i64 n] w fun e w' => e = .returned (.bool (P.elig s b n)) ∧ Below w.heap.size w w' := by
  have hbt := two_below w s a b fo fc
  have hbx := two_b w s a b fo fc
  have hvx := two_v w s a b fo fc
  obtain ⟨k, bb, off, c, ek, hk, ec, hm, ebao, q0, q1, q2, q3⟩ := cab_get hs hbt hc
  subst ek
  have hk1 : (k : Int) < s.bs.length := by omega
  have hk2 : (0 : Int) ≤ k := by omega
  obtain ⟨g0, g1, _, _⟩ := shp_cabs h0 c hm
  have HS : Aside (∀ W : World, VslAt W s a → Calls Tryz.prog 144 #[V.vsl s a, .int .i64 c.2.1, .int .i64 b.cat] W fun e w' => e = .returned (.bool (Sh.P.serves s.cs c.2.1 b.cat)) ∧ Below W.heap.size W w') := fun W hW => doesServe_int s a _ _ W hW h0 ⟨g0, g1⟩ hy
  have HE : Aside (P.elig s b k = (Sh.P.serves s.cs c.2.1 b.cat && P.suits c b)) := by show _ = _; rw [P.elig, ec]
  clear hc g0 g1 hy hm
  obtain ⟨legs, souls, cs, bs⟩ := s
  obtain ⟨cao, bao, cc, bc⟩ := a
  simp only at *
  subst ebao
  obtain ⟨x0, x1, x2, x3, x4, x5, x6, x7, x8, x9, x10⟩ := hbx
  obtain ⟨v0, v1, v2, v3⟩ := hvx
  simp only at v0 v1 v2 v3
  have hs2 := hs.below hbt
  generalize hW : W.two w { legs := legs, souls := souls, cs := cs, bs := bs } { cao := cao, bao := some ⟨bb, off, none⟩, cc := cc, bc := bc } b fo fc = W0 at *
  have hW' : (w.alloc (.cells #[.int .i64 legs, .int .i64 souls, .slice cao cs.length cc, .slice (some ⟨bb, off, none⟩) bs.length bc] 25)).alloc (.cells #[.int .i64 b.id, .int .i64 b.kind, .int .i64 b.state, .int .i64 b.guests, .bool b.level, .int .i64 b.cabin, .int .i64 b.cat, .int .i64 b.frm, .int .i64 b.to, .int .i64 b.til, .slice fo b.fol.length fc] 37) = W0 := hW
  have r0 := cell_regrown x0
  have r1 := cell_regrown x1
  have r2 := cell_regrown x2
  have r3 := cell_regrown x3
  have r4 := cell_regrown x4
  have r5 := cell_regrown x5
  have r6 := cell_regrown x6
  have r7 := cell_regrown x7
  have r8 := cell_regrown x8
  have r9 := cell_regrown x9
  have r10 := cell_regrown x10
  have t0 := cell_regrown v0
  have t1 := cell_regrown v1
  have t2 := cell_regrown v2
  have t3 := cell_regrown v3
  have u0 := cell_regrown q0
  have u1 := cell_regrown q1
  have u2 := cell_regrown q2
  have u3 := cell_regrown q3
  clear x0 x1 x2 x3 x4 x5 x6 x7 x8 x9 x10 v0 v1 v2 v3 q0 q1 q2 q3
  cases hsu : P.suits c b
  · go_enter Tryz.func91, Tryz.ntmps91
    go_wp2
    try rw [hW']
    refine wp_region_quiet_below (by kernel_rfl) (by kernel_rfl) (Qt.out ?_)
    repeat (refine Qt.step (fun K hK => ?_); go_simp; first | (refine hK _ ?_; clear hK K) | (apply Exists.intro; refine ⟨fun _ => ?_, hK _ ?_⟩; (first | (go_at_call 128; exact Calls.regrown_of (v := .bool false) (doesFit_is c b fo fc _ _ hsu)) | (go_at_call 144; exact Calls.regrown_of (v := .bool (Sh.P.serves cs c.2.1 b.cat)) (HS.out _ (hs2.below (below_regrown _ _ _))))); clear hK K))
    refine Qt.fin ?_
    intro w2 hw2
    obtain ⟨⟨dq, osq⟩, hw2⟩ := hw2
    have hb2 := below_regrown W0 dq osq
    rw [← hw2] at hb2
    clear hw2 r0 r1 r2 r3 r4 r5 r6 r7 r8 r9 r10 t0 t1 t2 t3 u0 u1 u2 u3
    go_wp2
    go_ret
    exact ⟨ret_bool (by rw [HE.out, hsu]; simp), bvia hbt hb2⟩
  · go_enter Tryz.func91, Tryz.ntmps91
    go_wp2
    try rw [hW']
    refine wp_region_quiet_below (by kernel_rfl) (by kernel_rfl) (Qt.out ?_)
    repeat (refine Qt.step (fun K hK => ?_); go_simp; first | (refine hK _ ?_; clear hK K) | (apply Exists.intro; refine ⟨fun _ => ?_, hK _ ?_⟩; (first | (go_at_call 128; exact Calls.regrown_of (v := .bool true) (doesFit_is c b fo fc _ _ hsu)) | (go_at_call 144; exact Calls.regrown_of (v := .bool (Sh.P.serves cs c.2.1 b.cat)) (HS.out _ (hs2.below (below_regrown _ _ _))))); clear hK K))
    refine Qt.fin ?_
    intro w2 hw2
    obtain ⟨⟨dq, osq⟩, hw2⟩ := hw2
    have hb2 := below_regrown W0 dq osq
    rw [← hw2] at hb2
    clear hw2 r0 r1 r2 r3 r4 r5 r6 r7 r8 r9 r10 t0 t1 t2 t3 u0 u1 u2 u3
    go_wp2
    go_ret
    exact ⟨ret_bool (by rw [HE.out, hsu]; simp), bvia hbt hb2⟩

end Go.Proofs.YtlamhfbdeinkkaeGreat.Bk

/- The reference: CheckBooking. -/
namespace Go.Proofs.YtlamhfbdeinkkaeGreat.Bk
open Go.RowKit
set_option linter.unusedSimpArgs false
set_option linter.unusedVariables false

theorem namedE_low {s : Vsl} {b : Bkg} (h : P.cabB s b.cabin = false) : P.namedE s b = 3 := by rw [P.namedE, if_neg (by simp [h])]
theorem namedE_cat {s : Vsl} {b : Bkg} (h : P.cabB s b.cabin = true) (h6 : (b.cat == 0) = false) : P.namedE s b = 1 := by rw [P.namedE, if_pos h, if_neg (by simpa using h6)]
theorem namedE_fit {s : Vsl} {b : Bkg} (h : P.cabB s b.cabin = true) (h6 : (b.cat == 0) = true) : P.namedE s b = if P.suits (P.cabAt s b.cabin) b = true then 0 else 4 := by rw [P.namedE, if_pos h, if_pos (by simpa using h6)]
theorem kindE_1 {s : Vsl} {b : Bkg} (h : (b.kind == 1) = true) : P.kindE s b = P.namedE s b := by rw [P.kindE, if_pos (by simpa using h)]
theorem kindE_2 {s : Vsl} {b : Bkg} (h : (b.kind == 1) = false) : P.kindE s b = P.promE s b := by rw [P.kindE, if_neg (by simpa using h)]
theorem cabB_low {s : Vsl} {n : Int} (h : n < 0) : P.cabB s n = false := by simp [P.cabB, P.btw]; omega
theorem cabB_high {s : Vsl} {n : Int} (h : (s.bs.length : Int) ≤ n) : P.cabB s n = false := by simp [P.cabB, P.btw]; omega
theorem cabB_in {s : Vsl} {n : Int} (h0 : ¬ n < 0) (h : n < s.bs.length) : P.cabB s n = true := by simp [P.cabB, P.btw]; omega

set_option maxHeartbeats 4000000 in
theorem refBk_early (s : Vsl) (a : VslA) (b : Bkg) (fo : Option Addr) (fc : Nat) (w : World) (hs : VslAt w s a) (h0 : P.shp s = 0)
    (h : (P.btw b.kind 1 2 && P.btw b.state 1 3) = false ∨ (P.btw b.id 1 999999 && P.btw b.guests 1 4) = false ∨ (P.chk b.frm b.to s.legs != 0) = true) :
    Calls Tryz.prog 75 #[V.vsl s a, V.bk b fo fc] w fun e w' => e = .returned (.int .i64 (P.bkE s b)) ∧ Below w.heap.size w w' := by
  have hbt := two_below w s a b fo fc
  cases hk : P.btw b.kind 1 2
  · have HE : Aside (P.bkE s b = 7) := bkE_kind (by rw [hk]; rfl)
    go_enter Tryz.func75, Tryz.ntmps75
    go_wp2_with (go_at_call 74; refine (between_any _ _ _ _).mono ?_; rintro e w1 ⟨rfl, rfl⟩; first | rw [hk])
    go_ret
    exact ⟨ret_int HE.out.symm, hbt⟩
  cases hst : P.btw b.state 1 3
  · have HE : Aside (P.bkE s b = 7) := bkE_kind (by rw [hk, hst]; rfl)
    go_enter Tryz.func75, Tryz.ntmps75
    go_wp2_with (go_at_call 74; refine (between_any _ _ _ _).mono ?_; rintro e w1 ⟨rfl, rfl⟩; first | rw [hk] | rw [hst])
    go_ret
    exact ⟨ret_int HE.out.symm, hbt⟩
  have H1 : Aside ((P.btw b.kind 1 2 && P.btw b.state 1 3) = true) := by show _ = _; rw [hk, hst]; rfl
  cases hid : P.btw b.id 1 999999
  · have HE : Aside (P.bkE s b = 3) := bkE_range H1.out (by rw [hid]; rfl)
    go_enter Tryz.func75, Tryz.ntmps75
    go_wp2_with (go_at_call 74; refine (between_any _ _ _ _).mono ?_; rintro e w1 ⟨rfl, rfl⟩; first | rw [hk] | rw [hst] | rw [hid])
    go_ret
    exact ⟨ret_int HE.out.symm, hbt⟩
  cases hg : P.btw b.guests 1 4
  · have HE : Aside (P.bkE s b = 3) := bkE_range H1.out (by rw [hid, hg]; rfl)
    go_enter Tryz.func75, Tryz.ntmps75
    go_wp2_with (go_at_call 74; refine (between_any _ _ _ _).mono ?_; rintro e w1 ⟨rfl, rfl⟩; first | rw [hk] | rw [hst] | rw [hid] | rw [hg])
    go_ret
    exact ⟨ret_int HE.out.symm, hbt⟩
  have H2 : Aside ((P.btw b.id 1 999999 && P.btw b.guests 1 4) = true) := by show _ = _; rw [hid, hg]; rfl
  have hz : (P.chk b.frm b.to s.legs != 0) = true := by
    rcases h with h | h | h
    · rw [hk, hst] at h; cases h
    · rw [hid, hg] at h; cases h
    · exact h
  clear h
  have HE : Aside (P.bkE s b = P.chk b.frm b.to s.legs) := bkE_span H1.out H2.out hz
  go_enter Tryz.func75, Tryz.ntmps75
  go_wp2_with (first
    | (go_at_call 74; refine (between_any _ _ _ _).mono ?_; rintro e w1 ⟨rfl, rfl⟩; first | rw [hk] | rw [hst] | rw [hid] | rw [hg])
    | (go_at_call 127; refine (Sp.checkSpan_any _ _ _ _).mono ?_; rintro e w1 ⟨rfl, hb1⟩))
  go_ret
  exact ⟨ret_int HE.out.symm, bvia hbt hb1⟩

/-- What is asked behind the kind. -/
def P.tailE (b : Bkg) : Int := if P.btw b.til 0 9999 = true then (if b.til ≠ 0 ∧ b.state ≠ 1 then 1 else Fo.P.folE b.fol) else 3
theorem bkE_tail {s : Vsl} {b : Bkg} (h : (P.btw b.kind 1 2 && P.btw b.state 1 3) = true) (h1 : (P.btw b.id 1 999999 && P.btw b.guests 1 4) = true) (h2 : (P.chk b.frm b.to s.legs != 0) = false) (h3 : P.kindE s b = 0) : P.bkE s b = P.tailE b := by
  rw [P.bkE, if_pos h, if_pos h1, if_pos (by simpa using h2), if_pos h3]; rfl
theorem tail_3 {b : Bkg} (h : P.btw b.til 0 9999 = false) : P.tailE b = 3 := by rw [P.tailE, if_neg (by simp [h])]
theorem tail_1 {b : Bkg} (h : P.btw b.til 0 9999 = true) (h1 : (b.til != 0) = true) (h2 : (b.state != 1) = true) : P.tailE b = 1 := by rw [P.tailE, if_pos h, if_pos (by simpa using And.intro h1 h2)]
theorem tail_f {b : Bkg} (h : P.btw b.til 0 9999 = true) (h1 : (b.til != 0) = true) (h2 : (b.state != 1) = false) : P.tailE b = Fo.P.folE b.fol := by rw [P.tailE, if_pos h, if_neg (by simp at h2; simp [h2])]
theorem tail_0 {b : Bkg} (h : P.btw b.til 0 9999 = true) (h1 : (b.til != 0) = false) : P.tailE b = Fo.P.folE b.fol := by rw [P.tailE, if_pos h, if_neg (by simp at h1; simp [h1])]

set_option maxHeartbeats 8000000 in
theorem refBk_named (s : Vsl) (a : VslA) (b : Bkg) (fo : Option Addr) (fc : Nat) (w : World) (hs : VslAt w s a) (hf : Fo.EntsAt w fo fc b.fol) (h0 : P.shp s = 0)
    (h1 : (P.btw b.kind 1 2 && P.btw b.state 1 3) = true) (h2 : (P.btw b.id 1 999999 && P.btw b.guests 1 4) = true) (hz : (P.chk b.frm b.to s.legs != 0) = false) (hkd : (b.kind == 1) = true) :
    Calls Tryz.prog 75 #[V.vsl s a, V.bk b fo fc] w fun e w' => e = .returned (.int .i64 (P.bkE s b)) ∧ Below w.heap.size w w' := by
  obtain ⟨_, _, _, _, _, _, _, hbs⟩ := shp_size h0
  have hbt := two_below w s a b fo fc
  have hbx := two_b w s a b fo fc
  have hvx := two_v w s a b fo fc
  have H1 : Aside ((P.btw b.kind 1 2 && P.btw b.state 1 3) = true) := h1
  have H2 : Aside ((P.btw b.id 1 999999 && P.btw b.guests 1 4) = true) := h2
  obtain ⟨hk, hst⟩ := Bool.and_eq_true_iff.1 h1
  obtain ⟨hid, hg⟩ := Bool.and_eq_true_iff.1 h2
  have HK : Aside (P.kindE s b = P.namedE s b) := kindE_1 hkd
  clear h1 h2
  by_cases hc0 : b.cabin < 0
  · have HE : Aside (P.bkE s b = 3) := by
      have e : P.kindE s b = 3 := HK.out.trans (namedE_low (cabB_low hc0))
      show _ = _; rw [bkE_kindE H1.out H2.out hz (by rw [e]; rfl), e]
    go_enter Tryz.func75, Tryz.ntmps75
    go_wp2_with (first
      | (go_at_call 74; refine (between_any _ _ _ _).mono ?_; rintro e w1 ⟨rfl, rfl⟩; first | rw [hk] | rw [hst] | rw [hid] | rw [hg])
      | (go_at_call 127; refine (Sp.checkSpan_any _ _ _ _).mono ?_; rintro e w1 ⟨rfl, hb1⟩; obtain ⟨x0, x1, x2, x3, x4, x5, x6, x7, x8, x9, x10⟩ := hbx.below hb1; obtain ⟨v0, v1, v2, v3⟩ := hvx.below hb1))
    go_ret
    exact ⟨ret_int HE.out.symm, bvia hbt hb1⟩
  by_cases hc1 : b.cabin < s.bs.length
  rotate_left
  · have hc2 : (s.bs.length : Int) ≤ b.cabin := by omega
    have HE : Aside (P.bkE s b = 3) := by
      have e : P.kindE s b = 3 := HK.out.trans (namedE_low (cabB_high hc2))
      show _ = _; rw [bkE_kindE H1.out H2.out hz (by rw [e]; rfl), e]
    go_enter Tryz.func75, Tryz.ntmps75
    go_wp2_with (first
      | (go_at_call 74; refine (between_any _ _ _ _).mono ?_; rintro e w1 ⟨rfl, rfl⟩; first | rw [hk] | rw [hst] | rw [hid] | rw [hg])
      | (go_at_call 127; refine (Sp.checkSpan_any _ _ _ _).mono ?_; rintro e w1 ⟨rfl, hb1⟩; obtain ⟨x0, x1, x2, x3, x4, x5, x6, x7, x8, x9, x10⟩ := hbx.below hb1; obtain ⟨v0, v1, v2, v3⟩ := hvx.below hb1))
    go_ret
    exact ⟨ret_int HE.out.symm, bvia hbt hb1⟩
  have hc := cabB_in hc0 hc1
  cases h6 : (b.cat == 0)
  · have h6' : (b.cat != 0) = true := by simpa using h6
    have HE : Aside (P.bkE s b = 1) := by
      have e : P.kindE s b = 1 := HK.out.trans (namedE_cat hc h6)
      show _ = _; rw [bkE_kindE H1.out H2.out hz (by rw [e]; rfl), e]
    clear hc
    go_enter Tryz.func75, Tryz.ntmps75
    go_wp2_with (first
      | (go_at_call 74; refine (between_any _ _ _ _).mono ?_; rintro e w1 ⟨rfl, rfl⟩; first | rw [hk] | rw [hst] | rw [hid] | rw [hg])
      | (go_at_call 127; refine (Sp.checkSpan_any _ _ _ _).mono ?_; rintro e w1 ⟨rfl, hb1⟩; obtain ⟨x0, x1, x2, x3, x4, x5, x6, x7, x8, x9, x10⟩ := hbx.below hb1; obtain ⟨v0, v1, v2, v3⟩ := hvx.below hb1))
    go_ret
    exact ⟨ret_int HE.out.symm, bvia hbt hb1⟩
  have h6' : (b.cat != 0) = false := by simpa using h6
  have HN : Aside (P.kindE s b = if P.suits (P.cabAt s b.cabin) b = true then 0 else 4) := HK.out.trans (namedE_fit hc h6)
  have HC : Aside (P.cabB s b.cabin = true) := hc
  clear hc h6
  go_enter Tryz.func75, Tryz.ntmps75
  go_wp2_with (first
    | (go_at_call 74; refine (between_any _ _ _ _).mono ?_; rintro e w1 ⟨rfl, rfl⟩; first | rw [hk] | rw [hst] | rw [hid] | rw [hg])
    | (go_at_call 127; refine (Sp.checkSpan_any _ _ _ _).mono ?_; rintro e w1 ⟨rfl, hb1⟩; obtain ⟨x0, x1, x2, x3, x4, x5, x6, x7, x8, x9, x10⟩ := hbx.below hb1; obtain ⟨v0, v1, v2, v3⟩ := hvx.below hb1))
  have hB1 : Below w.heap.size w w1 := bvia hbt hb1
  have HX : Aside (BBox w1 (w.heap.size + 1) b fo fc) := hbx.below hb1
  obtain ⟨k, bb, off, c, ek, hkk, ec, _, ebao, q0, q1, q2, q3⟩ := cab_get hs hB1 HC.out
  rw [ec] at HN
  have hk1 : (k : Int) < s.bs.length := by omega
  have hk2 : (0 : Int) ≤ k := by omega
  rw [ebao] at v3
  have EK : Aside (b.cabin = k) := ek
  rw [ek] at x5
  have r0 := cell_regrown x0
  have r1 := cell_regrown x1
  have r2 := cell_regrown x2
  have r3 := cell_regrown x3
  have r4 := cell_regrown x4
  have r5 := cell_regrown x5
  have r6 := cell_regrown x6
  have r7 := cell_regrown x7
  have r8 := cell_regrown x8
  have r9 := cell_regrown x9
  have r10 := cell_regrown x10
  have t0 := cell_regrown v0
  have t1 := cell_regrown v1
  have t2 := cell_regrown v2
  have t3 := cell_regrown v3
  have u0 := cell_regrown q0
  have u1 := cell_regrown q1
  have u2 := cell_regrown q2
  have u3 := cell_regrown q3
  clear hc0 hc1 ek x0 x1 x2 x3 x4 x5 x6 x7 x8 x9 x10 v0 v1 v2 v3 q0 q1 q2 q3 hbx hvx hbt hb1
  refine wp_region_quiet_below (by kernel_rfl) (by kernel_rfl) (Qt.out ?_)
  repeat (refine Qt.step (fun K hK => ?_); go_simp; first | (refine hK _ ?_; clear hK K) | (apply Exists.intro; refine ⟨fun _ => ?_, hK _ ?_⟩; (go_at_call 128; exact Calls.regrown_of (v := .bool (P.suits c b)) ((by rw [← EK.out]; exact doesFit_any c b fo fc _))); clear hK K))
  refine Qt.fin ?_
  intro w2 hw2
  obtain ⟨⟨dq, osq⟩, hw2⟩ := hw2
  have hb2 := below_regrown w1 dq osq
  rw [← hw2] at hb2
  have hB2 := bvia hB1 hb2
  clear hw2 r0 r1 r2 r3 r4 r5 r6 r7 r8 r9 r10 t0 t1 t2 t3 u0 u1 u2 u3
  obtain ⟨x0, x1, x2, x3, x4, x5, x6, x7, x8, x9, x10⟩ := HX.out.below hb2
  clear hb2 HX hB1
  cases hsu : P.suits c b
  · have HE : Aside (P.bkE s b = 4) := by
      have e : P.kindE s b = 4 := by rw [HN.out, hsu]; rfl
      show _ = _; rw [bkE_kindE H1.out H2.out hz (by rw [e]; rfl), e]
    go_wp2
    go_ret
    exact ⟨ret_int HE.out.symm, hB2⟩
  have HT : Aside (P.bkE s b = P.tailE b) := bkE_tail H1.out H2.out hz (by rw [HN.out, hsu]; rfl)
  cases ht : P.btw b.til 0 9999
  · have HE : Aside (P.bkE s b = 3) := HT.out.trans (tail_3 ht)
    go_wp2_with (go_at_call 74; refine (between_any _ _ _ _).mono ?_; rintro e w1 ⟨rfl, rfl⟩; rw [ht])
    go_ret
    exact ⟨ret_int HE.out.symm, hB2⟩
  cases hu : (b.til != 0)
  · have HE : Aside (P.bkE s b = Fo.P.folE b.fol) := HT.out.trans (tail_0 ht hu)
    go_wp2_with (first
      | (go_at_call 74; refine (between_any _ _ _ _).mono ?_; rintro e w1 ⟨rfl, rfl⟩; rw [ht])
      | (go_at_call 80; refine (Fo.checkFolio_any fo fc b.fol _ (SlAt.below Fo.REnt.mono hf hB2)).mono ?_; rintro e w3 ⟨rfl, hb3⟩))
    go_ret
    exact ⟨ret_int HE.out.symm, bvia hB2 hb3⟩
  cases hv : (b.state != 1)
  · have HE : Aside (P.bkE s b = Fo.P.folE b.fol) := HT.out.trans (tail_f ht hu hv)
    go_wp2_with (first
      | (go_at_call 74; refine (between_any _ _ _ _).mono ?_; rintro e w1 ⟨rfl, rfl⟩; rw [ht])
      | (go_at_call 80; refine (Fo.checkFolio_any fo fc b.fol _ (SlAt.below Fo.REnt.mono hf hB2)).mono ?_; rintro e w3 ⟨rfl, hb3⟩))
    go_ret
    exact ⟨ret_int HE.out.symm, bvia hB2 hb3⟩
  · have HE : Aside (P.bkE s b = 1) := HT.out.trans (tail_1 ht hu hv)
    go_wp2_with (go_at_call 74; refine (between_any _ _ _ _).mono ?_; rintro e w1 ⟨rfl, rfl⟩; rw [ht])
    go_ret
    exact ⟨ret_int HE.out.symm, hB2⟩

end Go.Proofs.YtlamhfbdeinkkaeGreat.Bk
set_option maxRecDepth 10000
/- The reference: CheckBooking of a promise; CheckBooking; CheckAll. -/
namespace Go.Proofs.YtlamhfbdeinkkaeGreat.Bk
open Go.RowKit
set_option linter.unusedSimpArgs false
set_option linter.unusedVariables false

theorem promE_cat {s : Vsl} {b : Bkg} (h : P.btw b.cat 0 ((s.cs.length : Int) - 1) = false) : P.promE s b = 3 := by rw [P.promE, if_neg (by simp [h])]
theorem promE_span {s : Vsl} {b : Bkg} (h : P.btw b.cat 0 ((s.cs.length : Int) - 1) = true) (h1 : ¬ (b.frm = 0 ∧ b.to = s.legs)) : P.promE s b = 4 := by rw [P.promE, if_pos h, if_neg h1]
theorem promE_none {s : Vsl} {b : Bkg} (h : P.btw b.cat 0 ((s.cs.length : Int) - 1) = true) (h1 : b.frm = 0 ∧ b.to = s.legs) (h2 : b.cabin = -1) : P.promE s b = 0 := by rw [P.promE, if_pos h, if_pos h1, if_pos h2]
theorem promE_out {s : Vsl} {b : Bkg} (h : P.btw b.cat 0 ((s.cs.length : Int) - 1) = true) (h1 : b.frm = 0 ∧ b.to = s.legs) (h2 : ¬ b.cabin = -1) (h3 : P.cabB s b.cabin = false) : P.promE s b = 3 := by rw [P.promE, if_pos h, if_pos h1, if_neg h2, if_neg (by simp [h3])]
theorem promE_in {s : Vsl} {b : Bkg} (h : P.btw b.cat 0 ((s.cs.length : Int) - 1) = true) (h1 : b.frm = 0 ∧ b.to = s.legs) (h2 : ¬ b.cabin = -1) (h3 : P.cabB s b.cabin = true) : P.promE s b = if P.elig s b b.cabin = true then 0 else 4 := by rw [P.promE, if_pos h, if_pos h1, if_neg h2, if_pos h3]
theorem btw_cat {n : Nat} {c : Int} (h0 : ¬ c < 0) (h1 : c < n) : P.btw c 0 ((n : Int) - 1) = true := by simp [P.btw]; omega
theorem btw_low {n : Nat} {c : Int} (h0 : c < 0) : P.btw c 0 ((n : Int) - 1) = false := by simp [P.btw]; omega
theorem btw_high {n : Nat} {c : Int} (h0 : (n : Int) ≤ c) : P.btw c 0 ((n : Int) - 1) = false := by simp [P.btw]; omega

set_option maxHeartbeats 8000000 in
theorem refBk_prom (s : Vsl) (a : VslA) (b : Bkg) (fo : Option Addr) (fc : Nat) (w : World) (hs : VslAt w s a) (hf : Fo.EntsAt w fo fc b.fol) (h0 : P.shp s = 0)
    (h1 : (P.btw b.kind 1 2 && P.btw b.state 1 3) = true) (h2 : (P.btw b.id 1 999999 && P.btw b.guests 1 4) = true) (hz : (P.chk b.frm b.to s.legs != 0) = false) (hkd : (b.kind == 1) = false) :
    Calls Tryz.prog 75 #[V.vsl s a, V.bk b fo fc] w fun e w' => e = .returned (.int .i64 (P.bkE s b)) ∧ Below w.heap.size w w' := by
  obtain ⟨_, _, _, _, _, hcs, _, hbs⟩ := shp_size h0
  have hbt := two_below w s a b fo fc
  have hbx := two_b w s a b fo fc
  have hvx := two_v w s a b fo fc
  have H0 : Aside (P.shp s = 0) := h0
  have H1 : Aside ((P.btw b.kind 1 2 && P.btw b.state 1 3) = true) := h1
  have H2 : Aside ((P.btw b.id 1 999999 && P.btw b.guests 1 4) = true) := h2
  obtain ⟨hk, hst⟩ := Bool.and_eq_true_iff.1 h1
  obtain ⟨hid, hg⟩ := Bool.and_eq_true_iff.1 h2
  have HK : Aside (P.kindE s b = P.promE s b) := kindE_2 hkd
  clear h1 h2 h0
  by_cases hy0 : b.cat < 0
  · have HE : Aside (P.bkE s b = 3) := by
      have e : P.kindE s b = 3 := HK.out.trans (promE_cat (btw_low hy0))
      show _ = _; rw [bkE_kindE H1.out H2.out hz (by rw [e]; rfl), e]
    go_enter Tryz.func75, Tryz.ntmps75
    go_wp2_with (first
      | (go_at_call 74; refine (between_any _ _ _ _).mono ?_; rintro e w1 ⟨rfl, rfl⟩; first | rw [hk] | rw [hst] | rw [hid] | rw [hg])
      | (go_at_call 127; refine (Sp.checkSpan_any _ _ _ _).mono ?_; rintro e w1 ⟨rfl, hb1⟩; obtain ⟨x0, x1, x2, x3, x4, x5, x6, x7, x8, x9, x10⟩ := hbx.below hb1; obtain ⟨v0, v1, v2, v3⟩ := hvx.below hb1))
    go_ret
    exact ⟨ret_int HE.out.symm, bvia hbt hb1⟩
  by_cases hy1 : b.cat < s.cs.length
  rotate_left
  · have hy2 : (s.cs.length : Int) ≤ b.cat := by omega
    have HE : Aside (P.bkE s b = 3) := by
      have e : P.kindE s b = 3 := HK.out.trans (promE_cat (btw_high hy2))
      show _ = _; rw [bkE_kindE H1.out H2.out hz (by rw [e]; rfl), e]
    go_enter Tryz.func75, Tryz.ntmps75
    go_wp2_with (first
      | (go_at_call 74; refine (between_any _ _ _ _).mono ?_; rintro e w1 ⟨rfl, rfl⟩; first | rw [hk] | rw [hst] | rw [hid] | rw [hg])
      | (go_at_call 127; refine (Sp.checkSpan_any _ _ _ _).mono ?_; rintro e w1 ⟨rfl, hb1⟩; obtain ⟨x0, x1, x2, x3, x4, x5, x6, x7, x8, x9, x10⟩ := hbx.below hb1; obtain ⟨v0, v1, v2, v3⟩ := hvx.below hb1))
    go_ret
    exact ⟨ret_int HE.out.symm, bvia hbt hb1⟩
  have HY : Aside (P.btw b.cat 0 ((s.cs.length : Int) - 1) = true) := btw_cat hy0 hy1
  cases hf0 : (b.frm != 0)
  rotate_left
  · have HE : Aside (P.bkE s b = 4) := by
      have e : P.kindE s b = 4 := HK.out.trans (promE_span HY.out (by simp at hf0; simp [hf0]))
      show _ = _; rw [bkE_kindE H1.out H2.out hz (by rw [e]; rfl), e]
    go_enter Tryz.func75, Tryz.ntmps75
    go_wp2_with (first
      | (go_at_call 74; refine (between_any _ _ _ _).mono ?_; rintro e w1 ⟨rfl, rfl⟩; first | rw [hk] | rw [hst] | rw [hid] | rw [hg])
      | (go_at_call 127; refine (Sp.checkSpan_any _ _ _ _).mono ?_; rintro e w1 ⟨rfl, hb1⟩; obtain ⟨x0, x1, x2, x3, x4, x5, x6, x7, x8, x9, x10⟩ := hbx.below hb1; obtain ⟨v0, v1, v2, v3⟩ := hvx.below hb1))
    go_ret
    exact ⟨ret_int HE.out.symm, bvia hbt hb1⟩
  cases hf1 : (b.to != s.legs)
  rotate_left
  · have HE : Aside (P.bkE s b = 4) := by
      have e : P.kindE s b = 4 := HK.out.trans (promE_span HY.out (by simp at hf1; simp [hf1]))
      show _ = _; rw [bkE_kindE H1.out H2.out hz (by rw [e]; rfl), e]
    go_enter Tryz.func75, Tryz.ntmps75
    go_wp2_with (first
      | (go_at_call 74; refine (between_any _ _ _ _).mono ?_; rintro e w1 ⟨rfl, rfl⟩; first | rw [hk] | rw [hst] | rw [hid] | rw [hg])
      | (go_at_call 127; refine (Sp.checkSpan_any _ _ _ _).mono ?_; rintro e w1 ⟨rfl, hb1⟩; obtain ⟨x0, x1, x2, x3, x4, x5, x6, x7, x8, x9, x10⟩ := hbx.below hb1; obtain ⟨v0, v1, v2, v3⟩ := hvx.below hb1))
    go_ret
    exact ⟨ret_int HE.out.symm, bvia hbt hb1⟩
  have HF : Aside (b.frm = 0 ∧ b.to = s.legs) := by show _ ∧ _; simpa using And.intro hf0 hf1
  by_cases hc0 : b.cabin < -1
  · have HE : Aside (P.bkE s b = 3) := by
      have e : P.kindE s b = 3 := HK.out.trans (promE_out HY.out HF.out (by omega) (cabB_low (by omega)))
      show _ = _; rw [bkE_kindE H1.out H2.out hz (by rw [e]; rfl), e]
    go_enter Tryz.func75, Tryz.ntmps75
    go_wp2_with (first
      | (go_at_call 74; refine (between_any _ _ _ _).mono ?_; rintro e w1 ⟨rfl, rfl⟩; first | rw [hk] | rw [hst] | rw [hid] | rw [hg])
      | (go_at_call 127; refine (Sp.checkSpan_any _ _ _ _).mono ?_; rintro e w1 ⟨rfl, hb1⟩; obtain ⟨x0, x1, x2, x3, x4, x5, x6, x7, x8, x9, x10⟩ := hbx.below hb1; obtain ⟨v0, v1, v2, v3⟩ := hvx.below hb1))
    go_ret
    exact ⟨ret_int HE.out.symm, bvia hbt hb1⟩
  by_cases hc1 : b.cabin < s.bs.length
  rotate_left
  · have hc2 : (s.bs.length : Int) ≤ b.cabin := by omega
    have HE : Aside (P.bkE s b = 3) := by
      have e : P.kindE s b = 3 := HK.out.trans (promE_out HY.out HF.out (by omega) (cabB_high hc2))
      show _ = _; rw [bkE_kindE H1.out H2.out hz (by rw [e]; rfl), e]
    go_enter Tryz.func75, Tryz.ntmps75
    go_wp2_with (first
      | (go_at_call 74; refine (between_any _ _ _ _).mono ?_; rintro e w1 ⟨rfl, rfl⟩; first | rw [hk] | rw [hst] | rw [hid] | rw [hg])
      | (go_at_call 127; refine (Sp.checkSpan_any _ _ _ _).mono ?_; rintro e w1 ⟨rfl, hb1⟩; obtain ⟨x0, x1, x2, x3, x4, x5, x6, x7, x8, x9, x10⟩ := hbx.below hb1; obtain ⟨v0, v1, v2, v3⟩ := hvx.below hb1))
    go_ret
    exact ⟨ret_int HE.out.symm, bvia hbt hb1⟩
  by_cases hc3 : 0 ≤ b.cabin
  rotate_left
  · have HT : Aside (P.bkE s b = P.tailE b) := bkE_tail H1.out H2.out hz (HK.out.trans (promE_none HY.out HF.out (by omega)))
    have hc4 : b.cabin < 0 := by omega
    clear hc3
    have BB0 := hbt
    go_enter Tryz.func75, Tryz.ntmps75
    go_wp2_with (go_at_call 74; refine (between_any _ _ _ _).mono ?_; rintro e wb ⟨rfl, rfl⟩; first | rw [hk] | rw [hst] | rw [hid] | rw [hg])
    refine (Sp.checkSpan_any _ _ _ _).mono ?_
    rintro e w1 ⟨rfl, hb1⟩
    obtain ⟨x0, x1, x2, x3, x4, x5, x6, x7, x8, x9, x10⟩ := hbx.below hb1
    obtain ⟨v0, v1, v2, v3⟩ := hvx.below hb1
    have hB1 := bvia hbt hb1
    clear hbx hvx hbt hb1
    cases ht : P.btw b.til 0 9999
    · have HE : Aside (P.bkE s b = 3) := HT.out.trans (tail_3 ht)
      go_wp2_with (go_at_call 74; refine (between_any _ _ _ _).mono ?_; rintro e wb ⟨rfl, rfl⟩; rw [ht])
      go_ret
      exact ⟨ret_int HE.out.symm, hB1⟩
    cases hu : (b.til != 0)
    · have HE : Aside (P.bkE s b = Fo.P.folE b.fol) := HT.out.trans (tail_0 ht hu)
      go_wp2_with (first
        | (go_at_call 74; refine (between_any _ _ _ _).mono ?_; rintro e wb ⟨rfl, rfl⟩; rw [ht])
        | (go_at_call 80; refine (Fo.checkFolio_any fo fc b.fol _ (SlAt.below Fo.REnt.mono hf hB1)).mono ?_; rintro e w3 ⟨rfl, hb3⟩))
      go_ret
      exact ⟨ret_int HE.out.symm, bvia hB1 hb3⟩
    cases hv : (b.state != 1)
    · have HE : Aside (P.bkE s b = Fo.P.folE b.fol) := HT.out.trans (tail_f ht hu hv)
      go_wp2_with (first
        | (go_at_call 74; refine (between_any _ _ _ _).mono ?_; rintro e wb ⟨rfl, rfl⟩; rw [ht])
        | (go_at_call 80; refine (Fo.checkFolio_any fo fc b.fol _ (SlAt.below Fo.REnt.mono hf hB1)).mono ?_; rintro e w3 ⟨rfl, hb3⟩))
      go_ret
      exact ⟨ret_int HE.out.symm, bvia hB1 hb3⟩
    · have HE : Aside (P.bkE s b = 1) := HT.out.trans (tail_1 ht hu hv)
      go_wp2_with (go_at_call 74; refine (between_any _ _ _ _).mono ?_; rintro e wb ⟨rfl, rfl⟩; rw [ht])
      go_ret
      exact ⟨ret_int HE.out.symm, hB1⟩
  have HC : Aside (P.cabB s b.cabin = true) := cabB_in (by omega) hc1
  have HN : Aside (P.kindE s b = if P.elig s b b.cabin = true then 0 else 4) := HK.out.trans (promE_in HY.out HF.out (by omega) HC.out)
  have HYY : Aside (0 ≤ b.cat ∧ b.cat < s.cs.length) := by show _ ∧ _; omega
  go_enter Tryz.func75, Tryz.ntmps75
  go_wp2_with (go_at_call 74; refine (between_any _ _ _ _).mono ?_; rintro e wb ⟨rfl, rfl⟩; first | rw [hk] | rw [hst] | rw [hid] | rw [hg])
  refine (Sp.checkSpan_any _ _ _ _).mono ?_
  rintro e w1 ⟨rfl, hb1⟩
  have HX : Aside (BBox w1 (w.heap.size + 1) b fo fc) := hbx.below hb1
  obtain ⟨x0, x1, x2, x3, x4, x5, x6, x7, x8, x9, x10⟩ := hbx.below hb1
  obtain ⟨v0, v1, v2, v3⟩ := hvx.below hb1
  have hB1 := bvia hbt hb1
  clear hbx hvx hbt hb1
  go_wp2_with fail
  refine (isEligible_any s a b fo fc b.cabin _ (hs.below hB1) H0.out HC.out HYY.out).mono ?_
  rintro e w2 ⟨rfl, hb2⟩
  have hB2 := bvia hB1 hb2
  clear x0 x1 x2 x3 x4 x5 x6 x7 x8 x9 x10 v0 v1 v2 v3
  obtain ⟨x0, x1, x2, x3, x4, x5, x6, x7, x8, x9, x10⟩ := HX.out.below hb2
  clear hb2 HX hB1
  cases hsu : P.elig s b b.cabin
  · have HE : Aside (P.bkE s b = 4) := by
      have e : P.kindE s b = 4 := by rw [HN.out, hsu]; rfl
      show _ = _; rw [bkE_kindE H1.out H2.out hz (by rw [e]; rfl), e]
    go_wp2
    go_ret
    exact ⟨ret_int HE.out.symm, hB2⟩
  have HT : Aside (P.bkE s b = P.tailE b) := bkE_tail H1.out H2.out hz (by rw [HN.out, hsu]; rfl)
  cases ht : P.btw b.til 0 9999
  · have HE : Aside (P.bkE s b = 3) := HT.out.trans (tail_3 ht)
    go_wp2_with (go_at_call 74; refine (between_any _ _ _ _).mono ?_; rintro e wb ⟨rfl, rfl⟩; rw [ht])
    go_ret
    exact ⟨ret_int HE.out.symm, hB2⟩
  cases hu : (b.til != 0)
  · have HE : Aside (P.bkE s b = Fo.P.folE b.fol) := HT.out.trans (tail_0 ht hu)
    go_wp2_with (first
      | (go_at_call 74; refine (between_any _ _ _ _).mono ?_; rintro e wb ⟨rfl, rfl⟩; rw [ht])
      | (go_at_call 80; refine (Fo.checkFolio_any fo fc b.fol _ (SlAt.below Fo.REnt.mono hf hB2)).mono ?_; rintro e w3 ⟨rfl, hb3⟩))
    go_ret
    exact ⟨ret_int HE.out.symm, bvia hB2 hb3⟩
  cases hv : (b.state != 1)
  · have HE : Aside (P.bkE s b = Fo.P.folE b.fol) := HT.out.trans (tail_f ht hu hv)
    go_wp2_with (first
      | (go_at_call 74; refine (between_any _ _ _ _).mono ?_; rintro e wb ⟨rfl, rfl⟩; rw [ht])
      | (go_at_call 80; refine (Fo.checkFolio_any fo fc b.fol _ (SlAt.below Fo.REnt.mono hf hB2)).mono ?_; rintro e w3 ⟨rfl, hb3⟩))
    go_ret
    exact ⟨ret_int HE.out.symm, bvia hB2 hb3⟩
  · have HE : Aside (P.bkE s b = 1) := HT.out.trans (tail_1 ht hu hv)
    go_wp2_with (go_at_call 74; refine (between_any _ _ _ _).mono ?_; rintro e wb ⟨rfl, rfl⟩; rw [ht])
    go_ret
    exact ⟨ret_int HE.out.symm, hB2⟩

theorem refBk_any (s : Vsl) (a : VslA) (b : Bkg) (fo : Option Addr) (fc : Nat) (w : World) (hs : VslAt w s a) (hf : Fo.EntsAt w fo fc b.fol) (h0 : P.shp s = 0) :
    Calls Tryz.prog 75 #[V.vsl s a, V.bk b fo fc] w fun e w' => e = .returned (.int .i64 (P.bkE s b)) ∧ Below w.heap.size w w' := by
  cases h1 : (P.btw b.kind 1 2 && P.btw b.state 1 3)
  · exact refBk_early s a b fo fc w hs h0 (.inl h1)
  cases h2 : (P.btw b.id 1 999999 && P.btw b.guests 1 4)
  · exact refBk_early s a b fo fc w hs h0 (.inr (.inl h2))
  cases hz : (P.chk b.frm b.to s.legs != 0)
  · cases hk : (b.kind == 1)
    · exact refBk_prom s a b fo fc w hs hf h0 h1 h2 hz hk
    · exact refBk_named s a b fo fc w hs hf h0 h1 h2 hz hk
  · exact refBk_early s a b fo fc w hs h0 (.inr (.inr hz))

end Go.Proofs.YtlamhfbdeinkkaeGreat.Bk

/- The reference: CheckAll. Those bookings that count, gone through by a loop over a function. -/
namespace Go.Proofs.YtlamhfbdeinkkaeGreat.Bk
open Go.RowKit Go.Shelf
set_option linter.unusedSimpArgs false
set_option linter.unusedVariables false
attribute [local go_sem] Oper.semAt_some

section
variable {Ok : BkV → Prop}
theorem bkvs_get {w w' : World} {ao : Option Addr} {cap : Nat} {es : List {x : BkV // Ok x}} (h : BkVsAt w ao cap (es.map (·.1))) (hb : Below w.heap.size w w') (k : Nat) (hk : k < es.length) :
    ∃ b off, ∃ y : {x : BkV // Ok x}, ao = some ⟨b, off, none⟩ ∧ b < w.heap.size ∧ es.drop k = y :: es.drop (k + 1) ∧ BkAt w' b (off + k * 11) y.1.1 y.1.2.1 y.1.2.2 ∧ Fo.EntsAt w' y.1.2.1 y.1.2.2 y.1.1.fol := by
  obtain ⟨b, off, x, h1, h2, h3, h4, h5⟩ := BkVsAt.get h hb k (by simpa using hk)
  have hd : es.drop k = es[k] :: es.drop (k + 1) := List.drop_eq_getElem_cons hk
  have e : x = es[k].1 := by
    rw [← List.map_drop, hd, List.map_cons] at h3
    simp only [List.cons.injEq] at h3
    exact h3.1.symm
  subst e
  exact ⟨b, off, es[k], h1, h2, hd, h4, h5⟩

set_option maxRecDepth 100000 in
set_option maxHeartbeats 4000000 in
/-- The function literal of 'those', for every loop body that keeps what lay below n₀, and the cell that holds which bookings count. -/
theorem those1_in (n : Nat) (hn : 1 ≤ n) (l Bl Bc n₀ : Nat) (ao : Option Addr) (cap : Nat) (es : List {x : BkV // Ok x}) (F : Nat) (cs : Array Value) (p : Bkg → Bool) (J Jx : List {x : BkV // Ok x} → World → Prop) (W w0 : World)
    (hcf : ∀ (args : Array Value) (wx : World), (callFunc F args).run Tryz.prog wx = .ok (.enter F args) wx)
    (hp : Hid (∀ (x : BkV) (wx : World), Below n₀ w0 wx → Calls Tryz.prog F (#[V.bkv x] ++ cs) wx fun e w' => e = .returned (.bool (p x.1)) ∧ Below wx.heap.size wx w'))
    (hJ : AbidesFrom W.heap.size J) (hJx : AbidesFrom W.heap.size Jx)
    (hY : ∀ pre x W1, J pre W1 → pre.length < es.length → YieldAt Fence.wide (n - 1) Tryz.prog l #[V.bkv x.1] W1 fun e W' =>
      (e = .returned (.bool true) ∧ J (pre ++ [x]) W' ∧ Fo.Kept n₀ Bc W1 W') ∨ (e = .returned (.bool false) ∧ Jx (pre ++ [x]) W'))
    (hw0 : w0.heap.size = n₀) (hb0 : Below n₀ w0 W) (hes : BkVsAt w0 ao cap (es.map (·.1)))
    (hBl : W.cell? ⟨Bl, 0, none⟩ = some (.slice ao es.length cap)) (hBc : W.cell? ⟨Bc, 0, none⟩ = some (.func (.func F) #[] cs)) (h0 : J [] W) :
    CallsIn Fence.wide n Tryz.prog 194 #[.func (.yield l) #[] #[], .pointer (some ⟨Bl, 0, none⟩), .pointer (some ⟨Bc, 0, none⟩)] W fun e W' => (∃ v, e = .returned v) ∧
      ((∃ ys, ys = es.filter (fun x => p x.1.1) ∧ J ys W') ∨ (∃ pre, pre <+: es.filter (fun x => p x.1.1) ∧ Jx pre W')) := by
  have hle : es.length ≤ cap := by simpa using hes.le
  have hmx := hes.max
  unfold maxLen at hmx
  refine callsIn_of_wp Tryz.func194 rfl trivial ?_ rfl
  simp only [Tryz.ntmps194, List.size_toArray, List.length_cons, List.length_nil, Nat.reduceAdd, Nat.reduceSub, Array.replicate_succ, Array.replicate_zero, List.push_toArray, List.append_toArray, List.nil_append, List.cons_append]
  gi_wp2
  gi_loopw [8] (fun i wr => ∃ (k : Nat) (pre : List {x : BkV // Ok x}), k ≤ es.length ∧ i = .int .i64 k ∧ pre ++ (es.drop k).filter (fun x => p x.1.1) = es.filter (fun x => p x.1.1) ∧ pre.length ≤ k ∧ J pre wr ∧ Below n₀ w0 wr ∧ wr.cell? ⟨Bc, 0, none⟩ = some (.func (.func F) #[] cs))
    (fun i _ => es.length - (intOf i).toNat)
  case atStart => exact ⟨0, [], Nat.zero_le _, rfl, rfl, by simp, h0, hb0, hBc⟩
  case round =>
    obtain ⟨k, pre, hk, rfl, hP, hpl, hJs, hbw, hc⟩ := hrel
    have HP : Aside (pre ++ (es.drop k).filter (fun x => p x.1.1) = es.filter (fun x => p x.1.1)) := hP
    clear hP
    by_cases hlt : k < es.length
    · obtain ⟨b, off, ⟨⟨x, fo, fc⟩, hok⟩, rfl, hbl, hd, hx, hfx⟩ := bkvs_get hes (w' := wr) (by rw [hw0]; exact hbw) k hlt
      simp only at hx hfx
      have hd' := HP.out
      rw [hd, List.filter_cons] at hd'
      simp only at hd'
      have HP2 : Aside (pre ++ (if p x = true then ⟨(x, fo, fc), hok⟩ :: (es.drop (k + 1)).filter (fun x => p x.1.1) else (es.drop (k + 1)).filter (fun x => p x.1.1)) = es.filter (fun x => p x.1.1)) := hd'
      clear hd hd' HP
      have hBcl : Bc < wr.heap.size := World.block_lt_of_cell? wr _ hc
      have HBs : Aside (n₀ ≤ wr.heap.size) := by have := hbw.size; show n₀ ≤ _; omega
      obtain ⟨x0, x1, x2, x3, x4, x5, x6, x7, x8, x9, x10⟩ := hx
      have hbl' : b < wr.heap.size := World.block_lt_of_cell? wr _ x0
      gi_wp2_with fail
      refine ⟨trivial, (callsIn_wide.2 (hp.out (x, fo, fc) _ (hbw.trans ((show Below wr.heap.size wr _ by go_grown).mono HBs.out)))).mono ?_⟩
      rintro e w1 ⟨rfl, hb1⟩
      have hB1 : Below wr.heap.size wr w1 := bvia (by go_grown) hb1
      have hJ1 := hJ pre wr w1 none hJs (Fo.grown_of_below hB1) (fun r e => by cases e)
      obtain ⟨z0, z1, z2, z3, z4, z5, z6, z7, z8, z9, z10⟩ := (BBox.new wr x fo fc).below hb1
      have hc1 := cellIn hB1 hc
      have hbw1 : Below n₀ w0 w1 := hbw.trans (hB1.mono HBs.out)
      clear hb1 hB1 hJs hbw hc x0 x1 x2 x3 x4 x5 x6 x7 x8 x9 x10
      cases hpx : p x
      · have HP3 : Aside (pre ++ (es.drop (k + 1)).filter (fun x => p x.1.1) = es.filter (fun x => p x.1.1)) := by
          have := HP2.out
          rw [hpx] at this
          show _ = _
          simpa using this
        clear HP2
        gi_wp2
        refine ⟨(fun f e => by cases e), ?_⟩
        gi_wp2
        go_roundw
        case rel => exact ⟨k + 1, pre, by omega, by simp, HP3.out, by omega, hJ1, hbw1, hc1⟩
        case measure => simp [intOf]; omega
      · have HP3 : Aside ((pre ++ [⟨(x, fo, fc), hok⟩]) ++ (es.drop (k + 1)).filter (fun x => p x.1.1) = es.filter (fun x => p x.1.1)) := by
          have := HP2.out
          rw [hpx] at this
          show _ = _
          simpa using this
        clear HP2
        obtain ⟨fn, tmps, assign, body, hy, hR⟩ := hY pre ⟨(x, fo, fc), hok⟩ w1 hJ1 (by omega)
        gi_wp2
        refine hR.mono ?_
        rintro e W3 (⟨rfl, hJ3, hk3⟩ | ⟨rfl, hJx3⟩)
        · gi_wp2
          go_roundw
          case rel => exact ⟨k + 1, pre ++ [⟨(x, fo, fc), hok⟩], by omega, by simp, HP3.out, by simp; omega, hJ3, hbw1.trans hk3.1, hk3.2 _ hc1⟩
          case measure => simp [intOf]; omega
        · gi_wp2
          refine bodyPost_ret (results_none rfl _ _ _) rfl ?_
          exact ⟨⟨_, rfl⟩, .inr ⟨pre ++ [⟨(x, fo, fc), hok⟩], ⟨_, HP3.out⟩, hJx3⟩⟩
    · obtain rfl : k = es.length := by omega
      have hP := HP.out
      rw [List.drop_of_length_le (Nat.le_refl _), List.filter_nil, List.append_nil] at hP
      gi_wp2
      go_end0
      exact ⟨⟨_, rfl⟩, .inl ⟨_, hP, hJs⟩⟩

abbrev V.seq (b c : Nat) : Value := .func (.func 194) #[] #[.pointer (some ⟨b, 0, none⟩), .pointer (some ⟨c, 0, none⟩)]
abbrev W.seq (w : World) (ao : Option Addr) (cap len F : Nat) (cs : Array Value) : World := (w.alloc (.cells #[.slice ao len cap] 30)).alloc (.cells #[.func (.func F) #[] cs] 120)

set_option maxHeartbeats 400000 in
theorem those_any (ao : Option Addr) (cap len F : Nat) (cs : Array Value) (w : World) :
    Calls Tryz.prog 151 #[.slice ao len cap, .func (.func F) #[] cs] w fun e w' => e = .returned (V.seq w.heap.size (w.heap.size + 1)) ∧ w' = W.seq w ao cap len F cs := by
  go_enter Tryz.func151, Tryz.ntmps151
  go_wp2
  go_ret
  exact ⟨rfl, rfl⟩

/-- 'those(l, counts)' hands back a value that gives those that count. -/
theorem those_stops (n : Nat) (hn : 1 ≤ n) (Bl Bc n₀ : Nat) (ao : Option Addr) (cap : Nat) (es : List {x : BkV // Ok x}) (F : Nat) (cs : Array Value) (p : Bkg → Bool) (w w0 : World)
    (hcf : ∀ (args : Array Value) (wx : World), (callFunc F args).run Tryz.prog wx = .ok (.enter F args) wx)
    (hp : Hid (∀ (x : BkV) (wx : World), Below n₀ w0 wx → Calls Tryz.prog F (#[V.bkv x] ++ cs) wx fun e w' => e = .returned (.bool (p x.1)) ∧ Below wx.heap.size wx w'))
    (hw0 : w0.heap.size = n₀) (hb0 : Below n₀ w0 w) (hes : BkVsAt w0 ao cap (es.map (·.1)))
    (hBl : w.cell? ⟨Bl, 0, none⟩ = some (.slice ao es.length cap)) (hBc : w.cell? ⟨Bc, 0, none⟩ = some (.func (.func F) #[] cs)) :
    SeqStopsK Fence.wide n Tryz.prog 194 #[.pointer (some ⟨Bl, 0, none⟩), .pointer (some ⟨Bc, 0, none⟩)] (fun x : {x : BkV // Ok x} => #[V.bkv x.1]) (Fo.Kept n₀ Bc) (fun ys => ys = es.filter (fun x => p x.1.1)) (fun pre => pre <+: es.filter (fun x => p x.1.1)) es.length w :=
  fun l J Jx W hW hJ hJx hY h0 =>
    those1_in n hn l Bl Bc n₀ ao cap es F cs p J Jx W w0 hcf hp hJ hJx hY hw0 (hb0.trans (hW.mono (by have := hb0.size; subst hw0; exact this))) hes (cellIn hW hBl) (cellIn hW hBc) h0
end

end Go.Proofs.YtlamhfbdeinkkaeGreat.Bk

/- The reference: CheckAll, SpansOf. -/
namespace Go.Proofs.YtlamhfbdeinkkaeGreat.Bk
open Go.RowKit
set_option linter.unusedSimpArgs false
set_option linter.unusedVariables false

theorem adds_snoc {n : Int} {acc pre : List (Int × Int)} {x : Int × Int} (h : P.addsE n acc pre = 0) : P.addsE n acc (pre ++ [x]) = Sp.P.addE (P.addsL n acc pre) n x.1 x.2 ∧ P.addsL n acc (pre ++ [x]) = Sp.P.addL (P.addsL n acc pre) n x.1 x.2 := by
  induction pre generalizing acc with
  | nil =>
    simp only [List.nil_append, P.addsE, P.addsL]
    split
    · rename_i he; exact ⟨he.symm, rfl⟩
    · rename_i he; exact ⟨rfl, by rw [Sp.P.addL, if_neg he]⟩
  | cons y r ih =>
    rw [P.addsE] at h
    rw [List.cons_append, P.addsE, P.addsL, P.addsL]
    split at h
    · rename_i he
      rw [if_pos he, if_pos he, if_pos he]
      exact ih h
    · contradiction
theorem adds_pre {n : Int} {acc pre t : List (Int × Int)} (h : ¬ P.addsE n acc pre = 0) : P.addsE n acc (pre ++ t) = P.addsE n acc pre := by
  induction pre generalizing acc with
  | nil => exact absurd rfl h
  | cons y r ih =>
    rw [P.addsE] at h ⊢
    rw [List.cons_append, P.addsE]
    split
    · rename_i he
      rw [if_pos he] at h
      exact ih h
    · rfl
theorem mine_take {cabin : Int} {l : List Bkg} {x : Bkg} {k : Nat} (hk : k < l.length) (hd : l.drop k = x :: l.drop (k + 1)) : P.mine cabin (l.take (k + 1)) = P.mine cabin (l.take k) ++ (if P.hasC cabin x = true then [P.spn x] else []) := by
  have e : l.take (k + 1) = l.take k ++ [x] := by
    have h1 := List.drop_eq_getElem_cons hk
    rw [hd] at h1
    simp only [List.cons.injEq] at h1
    rw [h1.1, List.take_succ_eq_append_getElem hk]
  rw [e, P.mine, P.mine, List.filter_append, List.map_append]
  congr 1
  cases h : P.hasC cabin x <;> simp [List.filter_cons, h]
theorem mem_of_drop {α : Type} {l : List α} {x : α} {k : Nat} (hd : l.drop k = x :: l.drop (k + 1)) : x ∈ l := by
  have : x ∈ l.drop k := by rw [hd]; simp
  exact List.mem_of_mem_drop this
/-- Spans of one's own, said of a block further ahead. -/
theorem own_ahead {w : World} {base base' : Nat} {v : Value} {l : List (Int × Int)} (h : Sp.Own w base v l) (hb : base' ≤ base) : Sp.Own w base' v l := by
  refine ⟨h.1, ?_⟩
  rcases h.2 with h2 | ⟨g, cap, cur, hv, hg, r⟩
  · exact Or.inl h2
  · exact Or.inr ⟨g, cap, cur, hv, Nat.le_trans hb hg, r⟩

abbrev P.addsB (n : Int) (r : List (Int × Int)) : Bool := decide (P.addsE n [] r = 0)

set_option maxHeartbeats 4000000 in
theorem spansOf_any (n : Int) (ao : Option Addr) (cap : Nat) (l : List Bkg) (cabin : Int) (w : World) (hl : BksAt w ao cap l) (hn : P.sails n = true) (hck : ∀ b ∈ l, P.chk b.frm b.to n = 0) :
    Calls Tryz.prog 90 #[.slice ao l.length cap, .int .i64 cabin] w fun e w' => ∃ v', e = .returned (.tuple #[v', .bool (P.addsB n (P.mine cabin l))]) ∧ Sp.Own w' w.heap.size v' (P.addsL n [] (P.mine cabin l)) ∧ Below w.heap.size w w' := by
  have hle := hl.le
  have hmx := hl.max
  unfold maxLen at hmx
  have HCK : Aside (∀ b ∈ l, P.chk b.frm b.to n = 0) := hck
  clear hck
  go_enter Tryz.func90, Tryz.ntmps90
  go_wp2
  go_loopg [6, 7] l.length (fun g o i wr => ∃ (k : Nat), k ≤ l.length ∧ g = l.length - k ∧ i = .int .i64 k ∧ Aside (P.addsE n [] (P.mine cabin (l.take k)) = 0) ∧ Sp.Own wr w.heap.size o (P.addsL n [] (P.mine cabin (l.take k))) ∧ Below w.heap.size w wr)
  case atStart => exact ⟨0, Nat.zero_le _, rfl, rfl, rfl, World.ownsRow_nil _ _ _ _, Below.refl _ _⟩
  case round =>
    obtain ⟨k, hk, rfl, rfl, HA, hown, hB⟩ := hrel
    by_cases hlt : k < l.length
    · obtain ⟨b, off, x, fo, fc, rfl, hbw, hd, hx, hfx⟩ := BksAt.get hl hB k hlt
      have HD : Aside (l.drop k = x :: l.drop (k + 1)) := hd
      have HC : Aside (P.chk x.frm x.to n = 0) := HCK.out x (mem_of_drop hd)
      clear hd hfx
      obtain ⟨x0, x1, x2, x3, x4, x5, x6, x7, x8, x9, x10⟩ := hx
      have hbl : b < wr.heap.size := World.block_lt_of_cell? wr _ x0
      have HM : Aside (P.mine cabin (l.take (k + 1)) = P.mine cabin (l.take k) ++ (if P.hasC cabin x = true then [P.spn x] else [])) := mine_take hlt HD.out
      have skip : P.hasC cabin x = false → P.mine cabin (l.take (k + 1)) = P.mine cabin (l.take k) := fun h => by rw [HM.out, h]; simp
      have SK : Aside (P.hasC cabin x = false → P.mine cabin (l.take (k + 1)) = P.mine cabin (l.take k)) := skip
      clear skip
      cases hst : (x.state == 3)
      rotate_left
      · have e := SK.out (by simp at hst; simp [P.hasC, P.live, hst])
        have E : Aside (P.mine cabin (l.take (k + 1)) = P.mine cabin (l.take k)) := e
        clear e
        go_wp2
        go_roundg (l.length - (k + 1))
        case measure => omega
        case rel => exact ⟨k + 1, by omega, rfl, by go_num, by rw [E.out]; exact HA, by rw [E.out]; exact hown, hB⟩
      cases hca : (x.cabin == cabin)
      · have hca' : (x.cabin != cabin) = true := by simpa using hca
        have e := SK.out (by simp at hca; simp [P.hasC, hca])
        have E : Aside (P.mine cabin (l.take (k + 1)) = P.mine cabin (l.take k)) := e
        clear e
        go_wp2
        go_roundg (l.length - (k + 1))
        case measure => omega
        case rel => exact ⟨k + 1, by omega, rfl, by go_num, by rw [E.out]; exact HA, by rw [E.out]; exact hown, hB⟩
      · have hca' : (x.cabin != cabin) = false := by simpa using hca
        have E : Aside (P.mine cabin (l.take (k + 1)) = P.mine cabin (l.take k) ++ [P.spn x]) := by
          show _ = _
          rw [HM.out, if_pos (by simp at hst hca; simp [P.hasC, P.live, hst, hca])]
        have hcal : Sp.P.calendar (P.addsL n [] (P.mine cabin (l.take k))) n = 0 := adds_cal (nil_cal hn) HA
        have hsn := adds_snoc (x := P.spn x) (show P.addsE n [] (P.mine cabin (l.take k)) = 0 from HA)
        rw [← E.out] at hsn
        generalize hacc : P.addsL n [] (P.mine cabin (l.take k)) = acc at hown hcal hsn
        have HS : Aside (P.addsE n [] (P.mine cabin (l.take (k + 1))) = Sp.P.addE acc n x.frm x.to ∧ P.addsL n [] (P.mine cabin (l.take (k + 1))) = Sp.P.addL acc n x.frm x.to) := hsn
        have HR : Aside (Sp.P.refAddE acc x.frm x.to = Sp.P.addE acc n x.frm x.to ∧ Sp.P.refAddL acc x.frm x.to = Sp.P.addL acc n x.frm x.to) := Sp.refAdd (both_of hcal HC.out)
        have HCAL : Aside (Sp.P.calendar acc n = 0) := hcal
        have HOWN : Aside (Sp.Own wr w.heap.size u6 acc) := hown
        obtain ⟨ao2, cap2, hv, hsp⟩ := Sp.Own.at hown
        subst hv
        clear hown hsn hcal HM SK
        go_wp2_with fail
        refine (Sp.addSpan_any ao2 cap2 acc n x.frm x.to _ hsp HCAL.out HC.out).mono ?_
        rintro e w1 ⟨v1, rfl, hown1, hb1⟩
        rw [HR.out.1]
        rw [HR.out.2, ← HS.out.2] at hown1
        cases hz : (Sp.P.addE acc n x.frm x.to != 0)
        · go_wp2
          go_roundg (l.length - (k + 1))
          case measure => omega
          case rel => exact ⟨k + 1, by omega, rfl, by go_num, HS.out.1.trans (by simpa using hz), own_ahead hown1 hB.size, bvia hB hb1⟩
        · have hne : ¬ P.addsE n [] (P.mine cabin (l.take (k + 1))) = 0 := by rw [HS.out.1]; simpa using hz
          have hall : P.addsE n [] (P.mine cabin l) = P.addsE n [] (P.mine cabin (l.take (k + 1))) := by
            have e : P.mine cabin l = P.mine cabin (l.take (k + 1)) ++ P.mine cabin (l.drop (k + 1)) := by
              conv => lhs; rw [← List.take_append_drop (k + 1) l]
              rw [P.mine, List.filter_append, List.map_append]; rfl
            rw [e, adds_pre hne]
          have HN : Aside (¬ P.addsE n [] (P.mine cabin l) = 0) := by rw [hall]; exact hne
          clear hne hall
          go_wp2
          go_ret2
          exact ⟨.slice none 0 0, by simp [P.addsB, HN.out], by rw [addsL_of HN.out]; exact World.ownsRow_nil _ _ _ _, bvia hB hb1⟩
    · obtain rfl : k = l.length := by omega
      rw [List.take_of_length_le (Nat.le_refl _)] at HA hown
      go_wp2
      go_ret2
      exact ⟨_, by simp [P.addsB, HA.out], hown, hB⟩

end Go.Proofs.YtlamhfbdeinkkaeGreat.Bk
