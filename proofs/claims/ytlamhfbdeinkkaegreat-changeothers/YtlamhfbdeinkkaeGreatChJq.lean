/- Package change: the literal of Pay. -/
import Derived.Test.YtlamhfbdeinkkaeGreatChHq
import Derived.Deep.RegionHeld3
namespace Go.Proofs.YtlamhfbdeinkkaeGreat.St
open Go.RowKit Bk
set_option linter.unusedSimpArgs false
set_option linter.unusedVariables false
set_option maxRecDepth 10000

def P.payE (day m : Int) (b : Bkg) : Int :=
  if m < 1 ∨ 100000000 < m then 3 else if Fo.P.folE b.fol = 0 then (if Fo.P.owed b.fol < m then 4 else Fo.P.addE b.fol (day, 2, -m)) else Fo.P.folE b.fol
def P.payB (day m : Int) (b : Bkg) : Bkg := ⟨b.id, b.kind, b.state, b.guests, b.level, b.cabin, b.cat, b.frm, b.to, b.til, Fo.P.add b.fol (day, 2, -m)⟩
def P.payT (day m : Int) (b : Bkg) (e : Int) (b' : Bkg) : Prop := e = P.payE day m b ∧ (e = 0 → b' = P.payB day m b)
theorem payT_one (day m : Int) (b : Bkg) (e : Int) (b' : Bkg) (e' : Int) (b'' : Bkg) (h : P.payT day m b e b') (h' : P.payT day m b e' b'') : e = e' ∧ (e = 0 → b' = b'') :=
  ⟨h.1.trans h'.1.symm, fun h0 => (h.2 h0).trans (h'.2 ((h'.1.trans h.1.symm).trans h0)).symm⟩

end Go.Proofs.YtlamhfbdeinkkaeGreat.St
namespace Go.Proofs.YtlamhfbdeinkkaeGreat.St
open Go.RowKit Bk
set_option linter.unusedSimpArgs false
set_option linter.unusedVariables false
set_option maxRecDepth 10000

theorem add_zero {l : List Fo.Ent} {e : Fo.Ent} (h : Fo.P.addE l e = 0) : Fo.P.folE l = 0 ∧ Fo.P.add l e = l ++ [e] ∧ Fo.P.folE (l ++ [e]) = 0 := by
  unfold Fo.P.addE at h
  split at h
  · next h0 => exact ⟨h0, by rw [Fo.P.add, if_pos h0, Fo.P.plus, if_pos h], h⟩
  · next h0 => exact absurd h h0
theorem pay_zero {day m : Int} {b : Bkg} (h : P.payE day m b = 0) : Fo.P.addE b.fol (day, 2, -m) = 0 ∧ ¬ Fo.P.owed b.fol < m ∧ 1 ≤ m ∧ m ≤ 100000000 := by
  unfold P.payE at h
  split at h
  · exact absurd h (by decide)
  · next h1 =>
    split at h
    · split at h
      · exact absurd h (by decide)
      · next h3 => exact ⟨h, h3, by omega, by omega⟩
    · next h2 => exact absurd h h2
theorem pay_core (day m : Int) (b : Bkg) : P.core (P.payB day m b) = P.core b := rfl
theorem pay_bkE {s : Vsl} {day m : Int} {b : Bkg} (hb : P.bkE s b = 0) (h : Fo.P.folE (P.payB day m b).fol = 0) : P.bkE s (P.payB day m b) = 0 := by
  have hk : P.kindE s (P.payB day m b) = P.kindE s b := rfl
  unfold P.bkE at hb ⊢
  rw [hk]
  show (if (P.btw b.kind 1 2 && P.btw b.state 1 3) = true then (if (P.btw b.id 1 999999 && P.btw b.guests 1 4) = true then (if P.chk b.frm b.to s.legs = 0 then (if P.kindE s b = 0 then (if P.btw b.til 0 9999 = true then (if b.til ≠ 0 ∧ b.state ≠ 1 then 1 else Fo.P.folE (P.payB day m b).fol) else 3) else P.kindE s b) else P.chk b.frm b.to s.legs) else 3) else 7) = 0
  split at hb
  · next h1 =>
    rw [if_pos h1]
    split at hb
    · next h2 =>
      rw [if_pos h2]
      split at hb
      · next h3 =>
        rw [if_pos h3]
        split at hb
        · next h4 =>
          rw [if_pos h4]
          split at hb
          · next h5 =>
            rw [if_pos h5]
            split at hb
            · exact absurd hb (by decide)
            · next h6 => rw [if_neg h6]; exact h
          · exact absurd hb (by decide)
        · next h4 => exact absurd hb h4
      · next h3 => exact absurd hb h3
    · exact absurd hb (by decide)
  · exact absurd hb (by decide)
/-- Behind it the sailing is right. -/
theorem pay_right {x : Sail} {k : Nat} {day m : Int} {b b' : Bkg} (hE : P.SailE x 0) (hk : x.bks[k]? = some b) (h : P.payT day m b 0 b') : P.SailE (P.setB x (x.bks.set k b')) 0 := by
  obtain ⟨h1, h2, _⟩ := pay_zero h.1.symm
  obtain ⟨a1, a2, a3⟩ := add_zero h1
  have hb : P.bkE x.s b = 0 := by
    obtain ⟨hp, hf, h0, hbk, h16, ht, hm, c, hc, hcn⟩ := sail_ok hE
    exact hbk b (List.mem_of_getElem? hk)
  rw [h.2 rfl]
  refine keep_right hE hk (pay_core day m b) (pay_bkE hb ?_)
  show Fo.P.folE (Fo.P.add b.fol (day, 2, -m)) = 0
  rw [a2]
  exact a3

end Go.Proofs.YtlamhfbdeinkkaeGreat.St
namespace Go.Proofs.YtlamhfbdeinkkaeGreat.St
open Go.RowKit Bk
set_option linter.unusedSimpArgs false
set_option linter.unusedVariables false
set_option maxRecDepth 10000

set_option maxHeartbeats 2000000 in
theorem fares_any (ao : Option Addr) (cap : Nat) (l : List Fo.Ent) (w : World) (hl : Fo.EntsAt w ao cap l) (h100 : l.length ≤ 100) (ha : ∀ x ∈ l, -10000000000 ≤ x.2.2 ∧ x.2.2 ≤ 10000000000) :
    Calls Tryz.prog 121 #[.slice ao l.length cap] w fun e w' => e = .returned (.int .i64 (Fo.P.ftot Fo.P.isFare l)) ∧ Below w.heap.size w w' := by
  have hle := hl.le
  have hmx := hl.max
  unfold maxLen at hmx
  have HA : Aside (∀ x ∈ l, -10000000000 ≤ x.2.2 ∧ x.2.2 ≤ 10000000000) := ha
  clear ha
  have HR : Aside (∀ k, k ≤ l.length → -10000000000 * (k : Int) ≤ Fo.P.ftot Fo.P.isFare (l.take k) ∧ Fo.P.ftot Fo.P.isFare (l.take k) ≤ 10000000000 * (k : Int)) := by
    intro k hk
    have := Fo.ftot_wide Fo.P.isFare (l.take k) (fun x hx => HA.out x (List.mem_of_mem_take hx))
    rw [List.length_take, Nat.min_eq_left hk] at this
    exact this
  go_enter Tryz.func121, Tryz.ntmps121
  go_wp2
  go_loopg [3, 8] l.length (fun g v i wr => ∃ (k : Nat), k ≤ l.length ∧ g = l.length - k ∧ i = .int .i64 k ∧ v = .int .i64 (Fo.P.ftot Fo.P.isFare (l.take k)) ∧ Below w.heap.size w wr)
  case atStart => exact ⟨0, Nat.zero_le _, rfl, rfl, by simp [Fo.P.ftot], Below.refl _ _⟩
  case round =>
    obtain ⟨k, hk, rfl, rfl, rfl, hB⟩ := hrel
    by_cases hlt : k < l.length
    · obtain ⟨b, off, x, y, z, rfl, hbl, hd, e0, e1, e2⟩ := Fo.EntsAt.get hl hB k hlt
      have hr := HR.out k hk
      have hz2 : -10000000000 ≤ z ∧ z ≤ 10000000000 := HA.out _ (Fo.memA hlt hd)
      have HS : Aside (Fo.P.ftot Fo.P.isFare (l.take (k + 1)) = Fo.P.ftot Fo.P.isFare (l.take k) + (if Fo.P.isFare (x, y, z) = true then z else 0)) := by
        show _ = _
        rw [List.take_succ_eq_append_getElem hlt, Fo.getA hlt hd, Fo.ftot_append]
        simp [Fo.P.ftot]
      have HB : Aside (Below w.heap.size w wr) := hB
      clear hd hB
      generalize Fo.P.ftot Fo.P.isFare (l.take k) = S at HS hr
      by_cases h1 : y = 1
      · have HS2 : Aside (Fo.P.ftot Fo.P.isFare (l.take (k + 1)) = S + z) := by show _ = _; rw [HS.out]; simp [Fo.P.isFare, h1]
        clear HS
        subst h1
        go_wp2
        go_roundg (l.length - (k + 1))
        case measure => omega
        case rel => exact ⟨k + 1, by omega, rfl, by go_num, by rw [HS2.out], bvia HB.out (al _ _)⟩
      · have h1' : (y == 1) = false := by simpa using h1
        by_cases h4 : y = 4
        · have HS2 : Aside (Fo.P.ftot Fo.P.isFare (l.take (k + 1)) = S + z) := by show _ = _; rw [HS.out]; simp [Fo.P.isFare, h4]
          clear HS
          subst h4
          go_wp2
          go_roundg (l.length - (k + 1))
          case measure => omega
          case rel => exact ⟨k + 1, by omega, rfl, by go_num, by rw [HS2.out], bvia HB.out (al _ _)⟩
        · have h4' : (y == 4) = false := by simpa using h4
          have HS2 : Aside (Fo.P.ftot Fo.P.isFare (l.take (k + 1)) = S) := by show _ = _; rw [HS.out]; simp [Fo.P.isFare, h1, h4]
          clear HS
          go_wp2
          go_roundg (l.length - (k + 1))
          case measure => omega
          case rel => exact ⟨k + 1, by omega, rfl, by go_num, by rw [HS2.out], bvia HB.out (al _ _)⟩
    · obtain rfl : k = l.length := by omega
      rw [List.take_length]
      go_wp2
      go_ret
      exact ⟨rfl, hB⟩

end Go.Proofs.YtlamhfbdeinkkaeGreat.St
namespace Go.Proofs.YtlamhfbdeinkkaeGreat.St
open Go.RowKit Bk
set_option linter.unusedSimpArgs false
set_option linter.unusedVariables false
set_option maxRecDepth 10000

def P.mx (n : Int) : Int := if 0 < n then n else 0
/-- The penalty of a booking that is cancelled; what is wrong with it. -/
def P.canE (x : Sail) (b : Bkg) : Int := if b.state = 1 then 0 else Fo.P.penE x.L x.al x.th x.B x.dn x.s.cs.length x.s.legs (P.mx (Fo.P.ftot Fo.P.isFare b.fol)) (P.mx (x.lvs - x.day))
def P.canP (x : Sail) (b : Bkg) : Int := if b.state = 1 then 0 else Fo.P.pen x.L x.al x.th x.B x.dn x.s.cs.length x.s.legs (P.mx (Fo.P.ftot Fo.P.isFare b.fol)) (P.mx (x.lvs - x.day))

set_option maxHeartbeats 4000000 in
theorem canPen_any (x : Sail) (a : SailA) (b : Bkg) (fo : Option Addr) (fc : Nat) (w : World) (hs : SailAt w x a) (hf : Fo.EntsAt w fo fc b.fol) (h100 : b.fol.length ≤ 100) (ha : ∀ x ∈ b.fol, -10000000000 ≤ x.2.2 ∧ x.2.2 ≤ 10000000000) (hd0 : 0 ≤ x.day) (hd1 : x.day ≤ 9999) (hl0 : 0 ≤ x.lvs) (hl1 : x.lvs ≤ 9999) :
    Calls Tryz.prog 68 #[V.sail x a, V.bk b fo fc] w fun e w' => e = .returned (.tuple #[.int .i64 (P.canP x b), .int .i64 (P.canE x b)]) ∧ Below w.heap.size w w' := by
  have hb0 : Below w.heap.size w ((w.alloc (.cells (C.sail x a) 96)).alloc (.cells (C.bk b fo fc) 37)) := bvia (al _ _) (al _ _)
  by_cases h1 : b.state = 1
  · have HP : Aside (P.canP x b = 0 ∧ P.canE x b = 0) := by show _ ∧ _; rw [P.canP, P.canE, if_pos h1]; exact ⟨rfl, by rw [if_pos h1]⟩
    go_enter Tryz.func68, Tryz.ntmps68
    go_wp2
    go_ret2
    exact ⟨by rw [HP.out.1, HP.out.2]; rfl, by go_grown⟩
  have h1' : (b.state == 1) = false := by simpa using h1
  have HPP : Aside (P.canP x b = Fo.P.pen x.L x.al x.th x.B x.dn x.s.cs.length x.s.legs (P.mx (Fo.P.ftot Fo.P.isFare b.fol)) (P.mx (x.lvs - x.day))) := by show _ = _; rw [P.canP, if_neg h1]
  have HPE : Aside (P.canE x b = Fo.P.penE x.L x.al x.th x.B x.dn x.s.cs.length x.s.legs (P.mx (Fo.P.ftot Fo.P.isFare b.fol)) (P.mx (x.lvs - x.day))) := by show _ = _; rw [P.canE, if_neg h1]
  clear h1
  have hw : IntKind.i64.wrap (x.lvs - x.day) = x.lvs - x.day := by rw [IntKind.wrap_i64]; omega
  obtain ⟨m1, hm1⟩ : ∃ m, (if 0 < Fo.P.ftot Fo.P.isFare b.fol then Fo.P.ftot Fo.P.isFare b.fol else 0) = m := ⟨_, rfl⟩
  obtain ⟨m2, hm2⟩ : ∃ m, (if x.day < x.lvs then x.lvs - x.day else 0) = m := ⟨_, rfl⟩
  have e1 : P.mx (Fo.P.ftot Fo.P.isFare b.fol) = m1 := hm1
  have e2 : P.mx (x.lvs - x.day) = m2 := by
    rw [P.mx, ← hm2]
    by_cases h : x.day < x.lvs
    · rw [if_pos (by omega), if_pos h]
    · rw [if_neg (by omega), if_neg h]
  rw [e1, e2] at HPP HPE
  clear e1 e2
  have HX : Aside (SRow ((w.alloc (.cells (C.sail x a) 96)).alloc (.cells (C.bk b fo fc) 37)) w.heap.size x a) := (RowIs.new w (C.sail x a) 96).below (al _ _)
  have HY : Aside (RowIs ((w.alloc (.cells (C.sail x a) 96)).alloc (.cells (C.bk b fo fc) 37)) (w.heap.size + 1) (C.bk b fo fc)) := by
    have := RowIs.new (w.alloc (.cells (C.sail x a) 96)) (C.bk b fo fc) 37
    rwa [World.size_alloc] at this
  have HB : Aside (Below w.heap.size w ((w.alloc (.cells (C.sail x a) 96)).alloc (.cells (C.bk b fo fc) 37))) := hb0
  have HSA : Aside (SailAt w x a) := hs
  have HFE : Aside (Fo.EntsAt w fo fc b.fol) := hf
  have HAM : Aside (∀ x ∈ b.fol, -10000000000 ≤ x.2.2 ∧ x.2.2 ≤ 10000000000) := ha
  clear hs hf ha hb0
  go_enter Tryz.func68, Tryz.ntmps68
  go_wp2
  change Code.wp Tryz.prog _ _ _ ((w.alloc (.cells (C.sail x a) 96)).alloc (.cells (C.bk b fo fc) 37))
  generalize (w.alloc (.cells (C.sail x a) 96)).alloc (.cells (C.bk b fo fc) 37) = wB at HX HY HB ⊢
  have k0 : wB.cell? ⟨w.heap.size, 0, none⟩ = some (.int .i64 x.s.legs) := HX.out.cell 0
  have k2 : wB.cell? ⟨w.heap.size, 2, none⟩ = some (.slice a.v.cao x.s.cs.length a.v.cc) := HX.out.cell 2
  have k4 : wB.cell? ⟨w.heap.size, 4, none⟩ = some (.slice a.lo x.L.length a.lc) := HX.out.cell 4
  have k5 : wB.cell? ⟨w.heap.size, 5, none⟩ = some (.int .i64 x.al) := HX.out.cell 5
  have k6 : wB.cell? ⟨w.heap.size, 6, none⟩ = some (.int .i64 x.th) := HX.out.cell 6
  have k7 : wB.cell? ⟨w.heap.size, 7, none⟩ = some (.slice a.bo x.B.length a.bc) := HX.out.cell 7
  have k8 : wB.cell? ⟨w.heap.size, 8, none⟩ = some (.int .i64 x.dn) := HX.out.cell 8
  have k9 : wB.cell? ⟨w.heap.size, 9, none⟩ = some (.int .i64 x.day) := HX.out.cell 9
  have k10 : wB.cell? ⟨w.heap.size, 10, none⟩ = some (.int .i64 x.lvs) := HX.out.cell 10
  have kf : wB.cell? ⟨w.heap.size + 1, 10, none⟩ = some (.slice fo b.fol.length fc) := HY.out.cell 10
  go_region_held3 (fun u => u.cell? ⟨w.heap.size, 0, none⟩ = some (.int .i64 x.s.legs) ∧ u.cell? ⟨w.heap.size, 2, none⟩ = some (.slice a.v.cao x.s.cs.length a.v.cc) ∧ u.cell? ⟨w.heap.size, 4, none⟩ = some (.slice a.lo x.L.length a.lc) ∧ u.cell? ⟨w.heap.size, 5, none⟩ = some (.int .i64 x.al) ∧ u.cell? ⟨w.heap.size, 6, none⟩ = some (.int .i64 x.th) ∧ u.cell? ⟨w.heap.size, 7, none⟩ = some (.slice a.bo x.B.length a.bc) ∧ u.cell? ⟨w.heap.size, 8, none⟩ = some (.int .i64 x.dn) ∧ u.cell? ⟨w.heap.size, 9, none⟩ = some (.int .i64 x.day) ∧ u.cell? ⟨w.heap.size, 10, none⟩ = some (.int .i64 x.lvs) ∧ u.cell? ⟨w.heap.size + 1, 10, none⟩ = some (.slice fo b.fol.length fc))
    (first | with_reducible exact ⟨z0, z2, z4, z5, z6, z7, z8, z9, z10, zf⟩ | with_reducible exact ⟨y0, y2, y4, y5, y6, y7, y8, y9, y10, yf⟩ | with_reducible exact ⟨k0, k2, k4, k5, k6, k7, k8, k9, k10, kf⟩ | go_keep)
    (first
      | (go_at_call 121; refine (fares_any fo fc b.fol _ (SlAt.below Fo.REnt.mono HFE.out (bvia HB.out (dr _))) h100 HAM.out).mono ?_; rintro e w5 ⟨rfl, hb5⟩; have hB5 : Below wB.heap.size wB w5 := bvia (dr _) hb5; have y0 : w5.cell? ⟨w.heap.size, 0, none⟩ = some (.int .i64 x.s.legs) := (RowIs.below HX.out hB5).cell 0; have y2 : w5.cell? ⟨w.heap.size, 2, none⟩ = some (.slice a.v.cao x.s.cs.length a.v.cc) := (RowIs.below HX.out hB5).cell 2; have y4 : w5.cell? ⟨w.heap.size, 4, none⟩ = some (.slice a.lo x.L.length a.lc) := (RowIs.below HX.out hB5).cell 4; have y5 : w5.cell? ⟨w.heap.size, 5, none⟩ = some (.int .i64 x.al) := (RowIs.below HX.out hB5).cell 5; have y6 : w5.cell? ⟨w.heap.size, 6, none⟩ = some (.int .i64 x.th) := (RowIs.below HX.out hB5).cell 6; have y7 : w5.cell? ⟨w.heap.size, 7, none⟩ = some (.slice a.bo x.B.length a.bc) := (RowIs.below HX.out hB5).cell 7; have y8 : w5.cell? ⟨w.heap.size, 8, none⟩ = some (.int .i64 x.dn) := (RowIs.below HX.out hB5).cell 8; have y9 : w5.cell? ⟨w.heap.size, 9, none⟩ = some (.int .i64 x.day) := (RowIs.below HX.out hB5).cell 9; have y10 : w5.cell? ⟨w.heap.size, 10, none⟩ = some (.int .i64 x.lvs) := (RowIs.below HX.out hB5).cell 10; have yf : w5.cell? ⟨w.heap.size + 1, 10, none⟩ = some (.slice fo b.fol.length fc) := (RowIs.below HY.out hB5).cell 10)
      | (go_at_call 120; refine (Fo.penalty_any a.lo a.bo a.lc a.bc x.L x.al x.th x.B x.dn _ _ _ _ _ (HSA.out.fare.below (bvia HB.out hB5))).mono ?_; rintro e w6 ⟨rfl, hb6⟩; have hB6 : Below wB.heap.size wB w6 := bvia hB5 hb6; have z0 : w6.cell? ⟨w.heap.size, 0, none⟩ = some (.int .i64 x.s.legs) := (RowIs.below HX.out hB6).cell 0; have z2 : w6.cell? ⟨w.heap.size, 2, none⟩ = some (.slice a.v.cao x.s.cs.length a.v.cc) := (RowIs.below HX.out hB6).cell 2; have z4 : w6.cell? ⟨w.heap.size, 4, none⟩ = some (.slice a.lo x.L.length a.lc) := (RowIs.below HX.out hB6).cell 4; have z5 : w6.cell? ⟨w.heap.size, 5, none⟩ = some (.int .i64 x.al) := (RowIs.below HX.out hB6).cell 5; have z6 : w6.cell? ⟨w.heap.size, 6, none⟩ = some (.int .i64 x.th) := (RowIs.below HX.out hB6).cell 6; have z7 : w6.cell? ⟨w.heap.size, 7, none⟩ = some (.slice a.bo x.B.length a.bc) := (RowIs.below HX.out hB6).cell 7; have z8 : w6.cell? ⟨w.heap.size, 8, none⟩ = some (.int .i64 x.dn) := (RowIs.below HX.out hB6).cell 8; have z9 : w6.cell? ⟨w.heap.size, 9, none⟩ = some (.int .i64 x.day) := (RowIs.below HX.out hB6).cell 9; have z10 : w6.cell? ⟨w.heap.size, 10, none⟩ = some (.int .i64 x.lvs) := (RowIs.below HX.out hB6).cell 10; have zf : w6.cell? ⟨w.heap.size + 1, 10, none⟩ = some (.slice fo b.fol.length fc) := (RowIs.below HY.out hB6).cell 10))
  all_goals
    go_wp2
    go_ret2
    exact ⟨by rw [HPP.out, HPE.out]; rfl, bvia HB.out hB6⟩

end Go.Proofs.YtlamhfbdeinkkaeGreat.St
