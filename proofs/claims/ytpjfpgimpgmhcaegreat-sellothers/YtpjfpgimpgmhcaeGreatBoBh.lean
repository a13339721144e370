import Derived.Test.YtpjfpgimpgmhcaeGreatBoAh
set_option maxRecDepth 10000
/- The walk of checkAll. -/
namespace Go.Proofs.YtpjfpgimpgmhcaeGreat.Bk
open Go.RowKit
set_option linter.unusedSimpArgs false
set_option linter.unusedVariables false

/-- G2: bookings of a ship that is right, one by one. -/
def P.bksE (s : Vsl) : List Bkg → Int
  | [] => 0
  | b :: t => if P.bkE s b = 0 then P.bksE s t else P.bkE s b
def P.allE (s : Vsl) (l : List Bkg) : Int := if P.shp s = 0 then P.bksE s l else P.shp s

theorem bks_bad {s : Vsl} {l : List Bkg} {x : Bkg} {k : Nat} (hP : P.bksE s (l.drop k) = P.bksE s l) (hD : l.drop k = x :: l.drop (k + 1)) (h : (P.bkE s x != 0) = true) : P.bksE s l = P.bkE s x := by
  rw [← hP, hD, P.bksE, if_neg (by simpa using h)]
theorem bks_on {s : Vsl} {l : List Bkg} {x : Bkg} {k : Nat} (hP : P.bksE s (l.drop k) = P.bksE s l) (hD : l.drop k = x :: l.drop (k + 1)) (h : (P.bkE s x != 0) = false) : P.bksE s (l.drop (k + 1)) = P.bksE s l := by
  rw [← hP, hD, P.bksE, if_pos (by simpa using h)]
theorem bks_end {s : Vsl} {l : List Bkg} (hP : P.bksE s (l.drop l.length) = P.bksE s l) : P.bksE s l = 0 := by
  rw [← hP, List.drop_of_length_le (Nat.le_refl _)]; rfl
theorem bks_ok {s : Vsl} {l : List Bkg} (h : P.bksE s l = 0) : ∀ b ∈ l, P.bkE s b = 0 := by
  induction l with
  | nil => simp
  | cons b t ih =>
    rw [P.bksE] at h
    split at h
    · rename_i hb
      intro x hx
      rcases List.mem_cons.1 hx with rfl | hx
      · exact hb
      · exact ih h x hx
    · contradiction
theorem all_ok {s : Vsl} {l : List Bkg} (h : P.allE s l = 0) : P.shp s = 0 ∧ ∀ b ∈ l, P.bkE s b = 0 := by
  unfold P.allE at h
  split at h
  · exact ⟨by assumption, bks_ok h⟩
  · contradiction

set_option maxHeartbeats 4000000 in
theorem checkAll_any (s : Vsl) (a : VslA) (ao : Option Addr) (cap : Nat) (l : List Bkg) (w : World) (hs : VslAt w s a) (hl : BksAt w ao cap l) :
    Calls Tryz.prog 130 #[V.vsl s a, .slice ao l.length cap] w fun e w' => e = .returned (.int .i64 (P.allE s l)) ∧ Below w.heap.size w w' := by
  have hle := hl.le
  have hmx := hl.max
  unfold maxLen at hmx
  have hvx := VBox.new w s a
  have hbt : Below w.heap.size w (w.alloc (.cells #[.int .i64 s.legs, .int .i64 s.souls, .slice a.cao s.cs.length a.cc, .slice a.bao s.bs.length a.bc] 25)) := by go_grown
  cases hz : (P.shp s != 0)
  · have hz0 : P.shp s = 0 := by simpa using hz
    have HE : Aside (P.allE s l = P.bksE s l) := by show _ = _; rw [P.allE, if_pos hz0]
    have HZ : Aside (P.shp s = 0) := hz0
    clear hz0
    go_enter Tryz.func130, Tryz.ntmps130
    go_wp2_with (go_at_call 90; refine (shp_any s a _ (hs.below hbt)).mono ?_; rintro e w1 ⟨rfl, hb1⟩)
    go_loopg [16] l.length (fun g i wr => ∃ (k : Nat), k ≤ l.length ∧ g = l.length - k ∧ i = .int .i64 k ∧ P.bksE s (l.drop k) = P.bksE s l ∧ VBox wr w.heap.size s a ∧ w.heap.size < wr.heap.size ∧ Below w.heap.size w wr)
    case atStart => exact ⟨0, Nat.zero_le _, rfl, rfl, rfl, hvx.below hb1, by have := hb1.size; simp at this; omega, bvia hbt hb1⟩
    case round =>
      obtain ⟨k, hk, rfl, rfl, hP, hv, hlw, hB⟩ := hrel
      have HP : Aside (P.bksE s (l.drop k) = P.bksE s l) := hP
      clear hP hvx hbt hb1
      by_cases hlt : k < l.length
      · obtain ⟨b, off, x, fo, fc, rfl, hbw, hd, hx, hfx⟩ := BksAt.get hl hB k hlt
        have HD : Aside (l.drop k = x :: l.drop (k + 1)) := hd
        clear hd
        have hbl : b < wr.heap.size := by omega
        obtain ⟨x0, x1, x2, x3, x4, x5, x6, x7, x8, x9, x10⟩ := hx
        have HV : Aside (VBox wr w.heap.size s a) := hv
        obtain ⟨v0, v1, v2, v3⟩ := hv
        go_wp2_with (go_at_call 110; refine (checkOn_any s a x fo fc _ (hs.below (bvia hB (by go_grown))) (SlAt.below Fo.REnt.mono hfx (by go_grown)) HZ.out).mono ?_; rintro e w2 ⟨rfl, hb2⟩)
        · go_ret
          exact ⟨ret_int (by rw [HE.out, bks_bad HP.out HD.out ‹_›]), bvia (bvia hB (by go_grown)) hb2⟩
        · go_roundg (l.length - (k + 1))
          case measure => omega
          case rel => exact ⟨k + 1, by omega, rfl, by go_num, bks_on HP.out HD.out ‹_›, (HV.out.below (by go_grown)).below hb2, by have := hb2.size; simp at this; omega, bvia (bvia hB (by go_grown)) hb2⟩
      · have : k = l.length := by omega
        subst this
        go_wp2
        go_ret
        exact ⟨ret_int (by rw [HE.out, bks_end HP.out]), hB⟩
  · have HE : Aside (P.allE s l = P.shp s) := by show _ = _; rw [P.allE, if_neg (by simpa using hz)]
    go_enter Tryz.func130, Tryz.ntmps130
    go_wp2_with (go_at_call 90; refine (shp_any s a _ (hs.below hbt)).mono ?_; rintro e w1 ⟨rfl, hb1⟩)
    go_ret
    exact ⟨ret_int HE.out.symm, bvia hbt hb1⟩

end Go.Proofs.YtpjfpgimpgmhcaeGreat.Bk

/- Bookings with where their folios lie; spans of a cabin, souls on a leg, as plain functions. -/
namespace Go.Proofs.YtpjfpgimpgmhcaeGreat.Bk
open Go.RowKit
set_option linter.unusedSimpArgs false
set_option linter.unusedVariables false

/-- A booking, and where its folio lies. -/
abbrev BkV := Bkg × Option Addr × Nat
abbrev V.bkv (x : BkV) : Value := V.bk x.1 x.2.1 x.2.2
abbrev cellsV (x : BkV) : List Value := cellsBk x.1 x.2.1 x.2.2
def RBkV (w : World) (x : BkV) (cs : List Value) : Prop := cs = cellsV x ∧ Fo.EntsAt w x.2.1 x.2.2 x.1.fol
theorem RBkV.mono : Mono RBkV := fun w w' x cs hb ⟨h1, h2⟩ => ⟨h1, SlAt.below Fo.REnt.mono h2 hb⟩
abbrev BkVsAt (w : World) (ao : Option Addr) (cap : Nat) (l : List BkV) : Prop := SlAt RBkV 11 w ao cap l

theorem BksAt.pick {w : World} {ao : Option Addr} {cap : Nat} {l : List Bkg} (h : BksAt w ao cap l) : ∃ lv : List BkV, lv.map (·.1) = l ∧ BkVsAt w ao cap lv := by
  rcases Nat.eq_zero_or_pos l.length with h0 | h0
  · obtain rfl : l = [] := List.eq_nil_of_length_eq_zero h0
    exact ⟨[], rfl, by simp, h.max, h.nil, fun h => by simp at h⟩
  · obtain ⟨b, off, rfl, hlt, hc⟩ := h.cells h0
    have each : ∀ i, i < l.length → ∃ q : BkV, l[i]? = some q.1 ∧ Fo.EntsAt w q.2.1 q.2.2 q.1.fol ∧ ∀ j u, (cellsV q)[j]? = some u → w.cell? ⟨b, off + i * 11 + j, none⟩ = some u := by
      intro i hi
      obtain ⟨cs, ⟨fo, fc, rfl, h2⟩, _, h3⟩ := hc i hi
      exact ⟨(l[i], fo, fc), by simp [hi], h2, h3⟩
    haveI : Inhabited BkV := ⟨(⟨0, 0, 0, 0, false, 0, 0, 0, 0, 0, []⟩, none, 0)⟩
    obtain ⟨q, hq⟩ := Go.Deep.choose_lt each
    refine ⟨(List.range l.length).map q, ?_, by simpa using h.le, h.max, h.nil, fun _ => ⟨b, off, rfl, hlt, fun i hi => ?_⟩⟩
    · refine List.ext_getElem? fun i => ?_
      rcases Nat.lt_or_ge i l.length with hi | hi
      · rw [(hq i hi).1]; simp [hi]
      · rw [List.getElem?_eq_none hi, List.getElem?_eq_none (by simpa using hi)]
    · simp at hi
      obtain ⟨_, r2, r3⟩ := hq i hi
      refine ⟨cellsV (q i), ⟨by simp, by simpa using r2⟩, rfl, r3⟩

theorem BkVsAt.all {w : World} {ao : Option Addr} {cap : Nat} {lv : List BkV} (h : BkVsAt w ao cap lv) : BksAt w ao cap (lv.map (·.1)) := by
  refine ⟨by simpa using h.le, h.max, h.nil, fun h0 => ?_⟩
  simp at h0
  obtain ⟨b, off, rfl, hlt, hc⟩ := h.cells h0
  refine ⟨b, off, rfl, hlt, fun i hi => ?_⟩
  simp at hi
  obtain ⟨cs, ⟨h1, h2⟩, h3, h4⟩ := hc i hi
  exact ⟨cs, ⟨_, _, by simpa using h1, by simpa using h2⟩, h3, h4⟩

theorem BkVsAt.get {w w' : World} {ao : Option Addr} {cap : Nat} {l : List BkV} (h : BkVsAt w ao cap l) (hb : Below w.heap.size w w') (k : Nat) (hk : k < l.length) :
    ∃ b off x, ao = some ⟨b, off, none⟩ ∧ b < w.heap.size ∧ l.drop k = x :: l.drop (k + 1) ∧ BkAt w' b (off + k * 11) x.1 x.2.1 x.2.2 ∧ Fo.EntsAt w' x.2.1 x.2.2 x.1.fol := by
  obtain ⟨b, off, x, cs, h1, h2, h3, ⟨rfl, h4⟩, h5, h6⟩ := SlAt.get RBkV.mono h hb k hk
  exact ⟨b, off, x, h1, h2, h3, ⟨h6 0 _ rfl, h6 1 _ rfl, h6 2 _ rfl, h6 3 _ rfl, h6 4 _ rfl, h6 5 _ rfl, h6 6 _ rfl, h6 7 _ rfl, h6 8 _ rfl, h6 9 _ rfl, h6 10 _ rfl⟩, h4⟩

/-- Has a live booking the cabin? -/
def P.hasC (cabin : Int) (b : Bkg) : Bool := P.live b && decide (b.cabin = cabin)
/-- Spans that are added, one by one. -/
def P.addsE (n : Int) : List (Int × Int) → List (Int × Int) → Int
  | _, [] => 0
  | acc, x :: r => if Sp.P.addE acc n x.1 x.2 = 0 then P.addsE n (Sp.P.addL acc n x.1 x.2) r else Sp.P.addE acc n x.1 x.2
def P.addsL (n : Int) : List (Int × Int) → List (Int × Int) → List (Int × Int)
  | acc, [] => acc
  | acc, x :: r => if Sp.P.addE acc n x.1 x.2 = 0 then P.addsL n (Sp.P.addL acc n x.1 x.2) r else []
abbrev P.spn (b : Bkg) : Int × Int := (b.frm, b.to)
/-- The spans of who has the cabin. -/
def P.mine (cabin : Int) (l : List Bkg) : List (Int × Int) := (l.filter (P.hasC cabin)).map P.spn
/-- G2: Spans. -/
def P.spE (s : Vsl) (l : List Bkg) (cabin : Int) : Int := if P.allE s l = 0 then (if P.cabB s cabin = true then P.addsE s.legs [] (P.mine cabin l) else 3) else P.allE s l
def P.spL (s : Vsl) (l : List Bkg) (cabin : Int) : List (Int × Int) := if P.allE s l = 0 then (if P.cabB s cabin = true then P.addsL s.legs [] (P.mine cabin l) else []) else []

/-- G2: Souls. -/
def P.onLeg (k : Int) (b : Bkg) : Int := if (P.live b && P.btw k b.frm (b.to - 1)) = true then b.guests else 0
def P.soul (k : Int) : List Bkg → Int
  | [] => 0
  | b :: t => P.onLeg k b + P.soul k t
def P.soulsL (n : Nat) (l : List Bkg) : List Int := (List.range n).map fun k => P.soul (k : Nat) l
def P.over (l : List Int) : Bool := l.any fun n => decide (60 < n)
def P.soE (s : Vsl) (l : List Bkg) : Int := if P.allE s l = 0 then (if P.over (P.soulsL s.legs.toNat l) = true then 2 else 0) else P.allE s l
def P.soL (s : Vsl) (l : List Bkg) : List Int := if P.soE s l = 0 then P.soulsL s.legs.toNat l else []

theorem bk_ok {s : Vsl} {b : Bkg} (h : P.bkE s b = 0) : P.chk b.frm b.to s.legs = 0 ∧ 1 ≤ b.guests ∧ b.guests ≤ 4 ∧ 1 ≤ b.id ∧ b.id ≤ 999999 ∧ P.kindE s b = 0 ∧ (b.kind = 1 ∨ b.kind = 2) ∧ (b.state = 1 ∨ b.state = 2 ∨ b.state = 3) ∧ Fo.P.folE b.fol = 0 := by
  unfold P.bkE at h
  split at h
  · rename_i h1
    split at h
    · rename_i h2
      split at h
      · rename_i h3
        split at h
        · rename_i h4
          split at h
          · split at h
            · omega
            · simp [P.btw] at h1 h2
              refine ⟨h3, by omega, by omega, by omega, by omega, h4, by omega, by omega, h⟩
          · omega
        · contradiction
      · contradiction
    · omega
  · omega

theorem kind_named {s : Vsl} {b : Bkg} (h : P.kindE s b = 0) (hk : b.kind = 1) : P.cabB s b.cabin = true := by
  rw [P.kindE, if_pos hk] at h
  unfold P.namedE at h
  split at h
  · assumption
  · omega
theorem kind_prom {s : Vsl} {b : Bkg} (h : P.kindE s b = 0) (hk : b.kind = 2) : 0 ≤ b.cat ∧ b.cat < s.cs.length ∧ b.frm = 0 ∧ b.to = s.legs ∧ (b.cabin = -1 ∨ (P.cabB s b.cabin = true ∧ P.elig s b b.cabin = true)) := by
  rw [P.kindE, if_neg (by omega)] at h
  unfold P.promE at h
  split at h
  · rename_i h1
    split at h
    · rename_i h2
      simp [P.btw] at h1
      refine ⟨by omega, by omega, h2.1, h2.2, ?_⟩
      split at h
      · left; assumption
      · rename_i h3
        split at h
        · rename_i h4
          split at h
          · rename_i h5
            exact .inr ⟨h4, h5⟩
          · omega
        · omega
    · omega
  · omega

theorem onLeg_gone {k : Int} {b : Bkg} (h : P.live b = false) : P.onLeg k b = 0 := by simp [P.onLeg, h]
/-- What was added is a calendar. -/
theorem adds_cal {n : Int} {acc r : List (Int × Int)} (h : Sp.P.calendar acc n = 0) (h0 : P.addsE n acc r = 0) : Sp.P.calendar (P.addsL n acc r) n = 0 := by
  induction r generalizing acc with
  | nil => exact h
  | cons x r ih =>
    rw [P.addsE] at h0
    rw [P.addsL]
    split at h0
    · rename_i he
      rw [if_pos he]
      refine ih ?_ h0
      rw [(Sp.add_ok he).2.2.2]
      exact Sp.ins_calendar he
    · contradiction
theorem nil_cal {n : Int} (h : P.sails n = true) : Sp.P.calendar [] n = 0 := by simp [Sp.P.calendar, h, Sp.P.cal]
theorem both_of {acc : List (Int × Int)} {n f t : Int} (h : Sp.P.calendar acc n = 0) (hc : P.chk f t n = 0) : Sp.P.both acc n f t = 0 := by rw [Sp.P.both, if_pos h, hc]
theorem add_06 {acc : List (Int × Int)} {n f t : Int} (h : Sp.P.calendar acc n = 0) (hc : P.chk f t n = 0) : Sp.P.addE acc n f t = 0 ∨ Sp.P.addE acc n f t = 6 := by
  rw [Sp.P.addE, if_pos (both_of h hc)]
  split <;> simp
theorem add_cal {acc : List (Int × Int)} {n f t : Int} (he : Sp.P.addE acc n f t = 0) : Sp.P.calendar (Sp.P.addL acc n f t) n = 0 := by
  rw [(Sp.add_ok he).2.2.2]
  exact Sp.ins_calendar he
theorem adds_06 {n : Int} {acc r : List (Int × Int)} (h : Sp.P.calendar acc n = 0) (hr : ∀ x ∈ r, P.chk x.1 x.2 n = 0) : P.addsE n acc r = 0 ∨ P.addsE n acc r = 6 := by
  induction r generalizing acc with
  | nil => left; rfl
  | cons x r ih =>
    rw [P.addsE]
    split
    · rename_i he
      exact ih (add_cal he) (fun y hy => hr y (by simp [hy]))
    · rename_i he
      rcases add_06 h (hr x (by simp)) with h1 | h1
      · exact absurd h1 he
      · exact .inr h1
theorem addsL_of {n : Int} {acc r : List (Int × Int)} (h : P.addsE n acc r ≠ 0) : P.addsL n acc r = [] := by
  induction r generalizing acc with
  | nil => exact absurd rfl h
  | cons x r ih =>
    rw [P.addsE] at h
    rw [P.addsL]
    split
    · rename_i he
      rw [if_pos he] at h
      exact ih h
    · rfl

end Go.Proofs.YtpjfpgimpgmhcaeGreat.Bk

/- The reference: IsEligible, CheckBooking, CheckAll. -/
namespace Go.Proofs.YtpjfpgimpgmhcaeGreat.Bk
open Go.RowKit
set_option linter.unusedSimpArgs false
set_option linter.unusedVariables false

/-- 'wpQuiet', shut: so that nothing unfolds it where operations are struck out. -/
structure Qt (P : Program) (ops : Array Oper) (C : World → Prop) (Q : Act → Prop) (l : List Oper) (a : Act) : Prop where
  out : wpQuiet P ops C Q l a
theorem Qt.step {P : Program} {ops : Array Oper} {C : World → Prop} {Q : Act → Prop} {rest : List Oper} {o : Oper} {a : Act}
    (h : ∀ K : Act → Prop, (∀ a, Qt P ops C Q rest a → K a) → if Region.wanted o (yielded ops a.tmps) then o.quiet P a C K else K (a.put o.dst undef)) : Qt P ops C Q (o :: rest) a := ⟨h _ (fun _ h => h.out)⟩
theorem Qt.fin {P : Program} {ops : Array Oper} {C : World → Prop} {Q : Act → Prop} {a : Act} (h : Q a) : Qt P ops C Q [] a := ⟨h⟩

end Go.Proofs.YtpjfpgimpgmhcaeGreat.Bk

/- The reference: CheckBooking. -/
namespace Go.Proofs.YtpjfpgimpgmhcaeGreat.Bk
open Go.RowKit
set_option linter.unusedSimpArgs false
set_option linter.unusedVariables false

theorem cabB_in {s : Vsl} {n : Int} (h0 : ¬ n < 0) (h : n < s.bs.length) : P.cabB s n = true := by simp [P.cabB, P.btw]; omega

end Go.Proofs.YtpjfpgimpgmhcaeGreat.Bk
set_option maxRecDepth 10000
/- The reference: CheckBooking of a promise; CheckBooking; CheckAll. -/
namespace Go.Proofs.YtpjfpgimpgmhcaeGreat.Bk
open Go.RowKit
set_option linter.unusedSimpArgs false
set_option linter.unusedVariables false

end Go.Proofs.YtpjfpgimpgmhcaeGreat.Bk

/- The reference: CheckAll. Those bookings that count, gone through by a loop over a function. -/
namespace Go.Proofs.YtpjfpgimpgmhcaeGreat.Bk
open Go.RowKit Go.Shelf
set_option linter.unusedSimpArgs false
set_option linter.unusedVariables false
attribute [local go_sem] Oper.semAt_some

section
variable {Ok : BkV → Prop}
theorem bkvs_get {w w' : World} {ao : Option Addr} {cap : Nat} {es : List {x : BkV // Ok x}} (h : BkVsAt w ao cap (es.map (·.1))) (hb : Below w.heap.size w w') (k : Nat) (hk : k < es.length) :
    ∃ b off, ∃ y : {x : BkV // Ok x}, ao = some ⟨b, off, none⟩ ∧ b < w.heap.size ∧ es.drop k = y :: es.drop (k + 1) ∧ BkAt w' b (off + k * 11) y.1.1 y.1.2.1 y.1.2.2 ∧ Fo.EntsAt w' y.1.2.1 y.1.2.2 y.1.1.fol := by
  obtain ⟨b, off, x, h1, h2, h3, h4, h5⟩ := BkVsAt.get h hb k (by simpa using hk)
  have hd : es.drop k = es[k] :: es.drop (k + 1) := List.drop_eq_getElem_cons hk
  have e : x = es[k].1 := by
    rw [← List.map_drop, hd, List.map_cons] at h3
    simp only [List.cons.injEq] at h3
    exact h3.1.symm
  subst e
  exact ⟨b, off, es[k], h1, h2, hd, h4, h5⟩

set_option maxRecDepth 100000 in
set_option maxHeartbeats 4000000 in
/-- The function literal of 'those', for every loop body that keeps what lay below n₀, and the cell that holds which bookings count. -/
theorem those1_in (n : Nat) (hn : 1 ≤ n) (l Bl Bc n₀ : Nat) (ao : Option Addr) (cap : Nat) (es : List {x : BkV // Ok x}) (F : Nat) (cs : Array Value) (p : Bkg → Bool) (J Jx : List {x : BkV // Ok x} → World → Prop) (W w0 : World)
    (hcf : ∀ (args : Array Value) (wx : World), (callFunc F args).run Tryz.prog wx = .ok (.enter F args) wx)
    (hp : Hid (∀ (x : BkV) (wx : World), Below n₀ w0 wx → Calls Tryz.prog F (#[V.bkv x] ++ cs) wx fun e w' => e = .returned (.bool (p x.1)) ∧ Below wx.heap.size wx w'))
    (hJ : AbidesFrom W.heap.size J) (hJx : AbidesFrom W.heap.size Jx)
    (hY : ∀ pre x W1, J pre W1 → pre.length < es.length → YieldAt Fence.wide (n - 1) Tryz.prog l #[V.bkv x.1] W1 fun e W' =>
      (e = .returned (.bool true) ∧ J (pre ++ [x]) W' ∧ Fo.Kept n₀ Bc W1 W') ∨ (e = .returned (.bool false) ∧ Jx (pre ++ [x]) W'))
    (hw0 : w0.heap.size = n₀) (hb0 : Below n₀ w0 W) (hes : BkVsAt w0 ao cap (es.map (·.1)))
    (hBl : W.cell? ⟨Bl, 0, none⟩ = some (.slice ao es.length cap)) (hBc : W.cell? ⟨Bc, 0, none⟩ = some (.func (.func F) #[] cs)) (h0 : J [] W) :
    CallsIn Fence.wide n Tryz.prog 174 #[.func (.yield l) #[] #[], .pointer (some ⟨Bl, 0, none⟩), .pointer (some ⟨Bc, 0, none⟩)] W fun e W' => (∃ v, e = .returned v) ∧
      ((∃ ys, ys = es.filter (fun x => p x.1.1) ∧ J ys W') ∨ (∃ pre, pre <+: es.filter (fun x => p x.1.1) ∧ Jx pre W')) := by
  have hle : es.length ≤ cap := by simpa using hes.le
  have hmx := hes.max
  unfold maxLen at hmx
  refine callsIn_of_wp Tryz.func174 rfl trivial ?_ rfl
  simp only [Tryz.ntmps174, List.size_toArray, List.length_cons, List.length_nil, Nat.reduceAdd, Nat.reduceSub, Array.replicate_succ, Array.replicate_zero, List.push_toArray, List.append_toArray, List.nil_append, List.cons_append]
  gi_wp2
  gi_loopw [8] (fun i wr => ∃ (k : Nat) (pre : List {x : BkV // Ok x}), k ≤ es.length ∧ i = .int .i64 k ∧ pre ++ (es.drop k).filter (fun x => p x.1.1) = es.filter (fun x => p x.1.1) ∧ pre.length ≤ k ∧ J pre wr ∧ Below n₀ w0 wr ∧ wr.cell? ⟨Bc, 0, none⟩ = some (.func (.func F) #[] cs))
    (fun i _ => es.length - (intOf i).toNat)
  case atStart => exact ⟨0, [], Nat.zero_le _, rfl, rfl, by simp, h0, hb0, hBc⟩
  case round =>
    obtain ⟨k, pre, hk, rfl, hP, hpl, hJs, hbw, hc⟩ := hrel
    have HP : Aside (pre ++ (es.drop k).filter (fun x => p x.1.1) = es.filter (fun x => p x.1.1)) := hP
    clear hP
    by_cases hlt : k < es.length
    · obtain ⟨b, off, ⟨⟨x, fo, fc⟩, hok⟩, rfl, hbl, hd, hx, hfx⟩ := bkvs_get hes (w' := wr) (by rw [hw0]; exact hbw) k hlt
      simp only at hx hfx
      have hd' := HP.out
      rw [hd, List.filter_cons] at hd'
      simp only at hd'
      have HP2 : Aside (pre ++ (if p x = true then ⟨(x, fo, fc), hok⟩ :: (es.drop (k + 1)).filter (fun x => p x.1.1) else (es.drop (k + 1)).filter (fun x => p x.1.1)) = es.filter (fun x => p x.1.1)) := hd'
      clear hd hd' HP
      have hBcl : Bc < wr.heap.size := World.block_lt_of_cell? wr _ hc
      have HBs : Aside (n₀ ≤ wr.heap.size) := by have := hbw.size; show n₀ ≤ _; omega
      obtain ⟨x0, x1, x2, x3, x4, x5, x6, x7, x8, x9, x10⟩ := hx
      have hbl' : b < wr.heap.size := World.block_lt_of_cell? wr _ x0
      gi_wp2_with fail
      refine ⟨trivial, (callsIn_wide.2 (hp.out (x, fo, fc) _ (hbw.trans ((show Below wr.heap.size wr _ by go_grown).mono HBs.out)))).mono ?_⟩
      rintro e w1 ⟨rfl, hb1⟩
      have hB1 : Below wr.heap.size wr w1 := bvia (by go_grown) hb1
      have hJ1 := hJ pre wr w1 none hJs (Fo.grown_of_below hB1) (fun r e => by cases e)
      obtain ⟨z0, z1, z2, z3, z4, z5, z6, z7, z8, z9, z10⟩ := (BBox.new wr x fo fc).below hb1
      have hc1 := cellIn hB1 hc
      have hbw1 : Below n₀ w0 w1 := hbw.trans (hB1.mono HBs.out)
      clear hb1 hB1 hJs hbw hc x0 x1 x2 x3 x4 x5 x6 x7 x8 x9 x10
      cases hpx : p x
      · have HP3 : Aside (pre ++ (es.drop (k + 1)).filter (fun x => p x.1.1) = es.filter (fun x => p x.1.1)) := by
          have := HP2.out
          rw [hpx] at this
          show _ = _
          simpa using this
        clear HP2
        gi_wp2
        refine ⟨(fun f e => by cases e), ?_⟩
        gi_wp2
        go_roundw
        case rel => exact ⟨k + 1, pre, by omega, by simp, HP3.out, by omega, hJ1, hbw1, hc1⟩
        case measure => simp [intOf]; omega
      · have HP3 : Aside ((pre ++ [⟨(x, fo, fc), hok⟩]) ++ (es.drop (k + 1)).filter (fun x => p x.1.1) = es.filter (fun x => p x.1.1)) := by
          have := HP2.out
          rw [hpx] at this
          show _ = _
          simpa using this
        clear HP2
        obtain ⟨fn, tmps, assign, body, hy, hR⟩ := hY pre ⟨(x, fo, fc), hok⟩ w1 hJ1 (by omega)
        gi_wp2
        refine hR.mono ?_
        rintro e W3 (⟨rfl, hJ3, hk3⟩ | ⟨rfl, hJx3⟩)
        · gi_wp2
          go_roundw
          case rel => exact ⟨k + 1, pre ++ [⟨(x, fo, fc), hok⟩], by omega, by simp, HP3.out, by simp; omega, hJ3, hbw1.trans hk3.1, hk3.2 _ hc1⟩
          case measure => simp [intOf]; omega
        · gi_wp2
          refine bodyPost_ret (results_none rfl _ _ _) rfl ?_
          exact ⟨⟨_, rfl⟩, .inr ⟨pre ++ [⟨(x, fo, fc), hok⟩], ⟨_, HP3.out⟩, hJx3⟩⟩
    · obtain rfl : k = es.length := by omega
      have hP := HP.out
      rw [List.drop_of_length_le (Nat.le_refl _), List.filter_nil, List.append_nil] at hP
      gi_wp2
      go_end0
      exact ⟨⟨_, rfl⟩, .inl ⟨_, hP, hJs⟩⟩

abbrev V.seq (b c : Nat) : Value := .func (.func 174) #[] #[.pointer (some ⟨b, 0, none⟩), .pointer (some ⟨c, 0, none⟩)]
abbrev W.seq (w : World) (ao : Option Addr) (cap len F : Nat) (cs : Array Value) : World := (w.alloc (.cells #[.slice ao len cap] 30)).alloc (.cells #[.func (.func F) #[] cs] 113)

set_option maxHeartbeats 400000 in
theorem those_any (ao : Option Addr) (cap len F : Nat) (cs : Array Value) (w : World) :
    Calls Tryz.prog 132 #[.slice ao len cap, .func (.func F) #[] cs] w fun e w' => e = .returned (V.seq w.heap.size (w.heap.size + 1)) ∧ w' = W.seq w ao cap len F cs := by
  go_enter Tryz.func132, Tryz.ntmps132
  go_wp2
  go_ret
  exact ⟨rfl, rfl⟩

/-- 'those(l, counts)' hands back a value that gives those that count. -/
theorem those_stops (n : Nat) (hn : 1 ≤ n) (Bl Bc n₀ : Nat) (ao : Option Addr) (cap : Nat) (es : List {x : BkV // Ok x}) (F : Nat) (cs : Array Value) (p : Bkg → Bool) (w w0 : World)
    (hcf : ∀ (args : Array Value) (wx : World), (callFunc F args).run Tryz.prog wx = .ok (.enter F args) wx)
    (hp : Hid (∀ (x : BkV) (wx : World), Below n₀ w0 wx → Calls Tryz.prog F (#[V.bkv x] ++ cs) wx fun e w' => e = .returned (.bool (p x.1)) ∧ Below wx.heap.size wx w'))
    (hw0 : w0.heap.size = n₀) (hb0 : Below n₀ w0 w) (hes : BkVsAt w0 ao cap (es.map (·.1)))
    (hBl : w.cell? ⟨Bl, 0, none⟩ = some (.slice ao es.length cap)) (hBc : w.cell? ⟨Bc, 0, none⟩ = some (.func (.func F) #[] cs)) :
    SeqStopsK Fence.wide n Tryz.prog 174 #[.pointer (some ⟨Bl, 0, none⟩), .pointer (some ⟨Bc, 0, none⟩)] (fun x : {x : BkV // Ok x} => #[V.bkv x.1]) (Fo.Kept n₀ Bc) (fun ys => ys = es.filter (fun x => p x.1.1)) (fun pre => pre <+: es.filter (fun x => p x.1.1)) es.length w :=
  fun l J Jx W hW hJ hJx hY h0 =>
    those1_in n hn l Bl Bc n₀ ao cap es F cs p J Jx W w0 hcf hp hJ hJx hY hw0 (hb0.trans (hW.mono (by have := hb0.size; subst hw0; exact this))) hes (cellIn hW hBl) (cellIn hW hBc) h0
end

end Go.Proofs.YtpjfpgimpgmhcaeGreat.Bk

/- The reference: CheckAll, SpansOf. -/
namespace Go.Proofs.YtpjfpgimpgmhcaeGreat.Bk
open Go.RowKit
set_option linter.unusedSimpArgs false
set_option linter.unusedVariables false

theorem adds_snoc {n : Int} {acc pre : List (Int × Int)} {x : Int × Int} (h : P.addsE n acc pre = 0) : P.addsE n acc (pre ++ [x]) = Sp.P.addE (P.addsL n acc pre) n x.1 x.2 ∧ P.addsL n acc (pre ++ [x]) = Sp.P.addL (P.addsL n acc pre) n x.1 x.2 := by
  induction pre generalizing acc with
  | nil =>
    simp only [List.nil_append, P.addsE, P.addsL]
    split
    · rename_i he; exact ⟨he.symm, rfl⟩
    · rename_i he; exact ⟨rfl, by rw [Sp.P.addL, if_neg he]⟩
  | cons y r ih =>
    rw [P.addsE] at h
    rw [List.cons_append, P.addsE, P.addsL, P.addsL]
    split at h
    · rename_i he
      rw [if_pos he, if_pos he, if_pos he]
      exact ih h
    · contradiction
theorem adds_pre {n : Int} {acc pre t : List (Int × Int)} (h : ¬ P.addsE n acc pre = 0) : P.addsE n acc (pre ++ t) = P.addsE n acc pre := by
  induction pre generalizing acc with
  | nil => exact absurd rfl h
  | cons y r ih =>
    rw [P.addsE] at h ⊢
    rw [List.cons_append, P.addsE]
    split
    · rename_i he
      rw [if_pos he] at h
      exact ih h
    · rfl
theorem mem_of_drop {α : Type} {l : List α} {x : α} {k : Nat} (hd : l.drop k = x :: l.drop (k + 1)) : x ∈ l := by
  have : x ∈ l.drop k := by rw [hd]; simp
  exact List.mem_of_mem_drop this
/-- Spans of one's own, said of a block further ahead. -/
theorem own_ahead {w : World} {base base' : Nat} {v : Value} {l : List (Int × Int)} (h : Sp.Own w base v l) (hb : base' ≤ base) : Sp.Own w base' v l := by
  refine ⟨h.1, ?_⟩
  rcases h.2 with h2 | ⟨g, cap, cur, hv, hg, r⟩
  · exact Or.inl h2
  · exact Or.inr ⟨g, cap, cur, hv, Nat.le_trans hb hg, r⟩

abbrev P.addsB (n : Int) (r : List (Int × Int)) : Bool := decide (P.addsE n [] r = 0)

end Go.Proofs.YtpjfpgimpgmhcaeGreat.Bk
