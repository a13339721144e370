/- Package change: the literal of Move. -/
import Derived.Test.YtlamhfbdeinkkaeGreatChGq
import Derived.Test.YtlamhfbdeinkkaeGreatChAq
import Derived.Deep.RegionHeld3
namespace Go.Proofs.YtlamhfbdeinkkaeGreat.St
open Go.RowKit Bk
set_option linter.unusedSimpArgs false
set_option linter.unusedVariables false
set_option maxRecDepth 10000

def P.mvE (x : Sail) (c : Int) (b : Bkg) : Int := if b.cabin = -1 then 4 else if c < 0 ∨ (x.s.bs.length : Int) ≤ c then 3 else if c = b.cabin then 6 else P.checkE x.s (P.setC b c)
def P.mvT (x : Sail) (c : Int) (b : Bkg) (e : Int) (b' : Bkg) : Prop := e = P.mvE x c b ∧ (e = 0 → b' = P.setC b c)

set_option maxHeartbeats 8000000 in
theorem move1_lit (w : World) (b : Bkg) (pa pc : Nat) (x : Sail) (a : SailA) (c : Int) (ha : w.cell? ⟨pa, 0, none⟩ = some (.int .i64 c)) (hc : SRow w pc x a) (hs : SailAt w x a) :
    LitOk w 70 #[.pointer (some ⟨pa, 0, none⟩), .pointer (some ⟨pc, 0, none⟩)] b (P.mvT x c b) := by
  intro U base G n k lv fo fc hB hm hO hn hk hE
  show Calls Tryz.prog 70 #[.pointer (some ⟨G, k * 11, none⟩), .pointer (some ⟨pa, 0, none⟩), .pointer (some ⟨pc, 0, none⟩)] U _
  have hkl : k < lv.length := (List.getElem?_eq_some_iff.1 hk).1
  have c5 : U.cell? ⟨G, k * 11 + 5, none⟩ = some (.int .i64 b.cabin) := (own_cell hO hn hk 5 (by decide)).1
  have f5 := (own_cell hO hn hk 5 (by decide)).2
  have am : U.cell? ⟨pa, 0, none⟩ = some (.int .i64 c) := cellIn hB ha
  have d3 : U.cell? ⟨pc, 3, none⟩ = some (.slice a.v.bao x.s.bs.length a.v.bc) := (hc.below hB).cell 3
  have HO : Aside (OwnB U base (.slice (some ⟨G, 0, none⟩) n n) lv) := hO
  have HK : Aside (lv[k]? = some (b, fo, fc)) := hk
  have HN : Aside (lv.length = n) := hn
  have HE : Aside (Fo.OwnN U (G + 1) (.slice fo b.fol.length fc) b.fol) := hE
  have HKL : Aside (k < lv.length) := hkl
  obtain ⟨cur, r1, r2, r3, hGm⟩ := own_row hO hn (by omega)
  have HGU : Aside (G < U.heap.size) := (Array.getElem?_eq_some_iff.1 r1).1
  have HGM : Aside (base ≤ G) := hGm
  have HBW : Aside (Below w.heap.size w U ∧ w.heap.size ≤ base) := ⟨hB, hm⟩
  have HC : Aside (SRow w pc x a) := hc
  have HSL : Aside (SailAt w x a) := hs
  clear hO hk hn hE hB r1 r2 r3 hkl ha hc hGm hm hs
  by_cases h1 : b.cabin = -1
  · have HP : Aside (4 = P.mvE x c b) := by show _ = _; rw [P.mvE, if_pos h1]
    have h1' : (b.cabin == -1) = true := by simpa using h1
    clear h1
    go_enter Tryz.func70, Tryz.ntmps70
    go_wp2
    go_ret
    first
      | exact ⟨4, b, rfl, ⟨HP.out, fun h => absurd h (by decide)⟩, fun i _ _ => rfl, Below.refl _ _, fun h => absurd h (by decide)⟩
      | exact ⟨4, rfl, b, ⟨HP.out, fun h => absurd h (by decide)⟩, fun i _ _ => rfl, Below.refl _ _, fun h => absurd h (by decide)⟩
  have h1' : (b.cabin == -1) = false := by simpa using h1
  have HX1 : Aside (¬ b.cabin = -1) := h1
  clear h1
  by_cases h2 : c < 0
  · have HP : Aside (3 = P.mvE x c b) := by show _ = _; rw [P.mvE, if_neg HX1.out, if_pos (.inl h2)]
    go_enter Tryz.func70, Tryz.ntmps70
    go_wp2
    go_ret
    first
      | exact ⟨3, b, rfl, ⟨HP.out, fun h => absurd h (by decide)⟩, fun i _ _ => rfl, Below.refl _ _, fun h => absurd h (by decide)⟩
      | exact ⟨3, rfl, b, ⟨HP.out, fun h => absurd h (by decide)⟩, fun i _ _ => rfl, Below.refl _ _, fun h => absurd h (by decide)⟩
  by_cases h3 : (x.s.bs.length : Int) ≤ c
  · have HP : Aside (3 = P.mvE x c b) := by show _ = _; rw [P.mvE, if_neg HX1.out, if_pos (.inr h3)]
    go_enter Tryz.func70, Tryz.ntmps70
    go_wp2
    go_ret
    first
      | exact ⟨3, b, rfl, ⟨HP.out, fun h => absurd h (by decide)⟩, fun i _ _ => rfl, Below.refl _ _, fun h => absurd h (by decide)⟩
      | exact ⟨3, rfl, b, ⟨HP.out, fun h => absurd h (by decide)⟩, fun i _ _ => rfl, Below.refl _ _, fun h => absurd h (by decide)⟩
  have HX2 : Aside (¬ (c < 0 ∨ (x.s.bs.length : Int) ≤ c)) := by show ¬ _; omega
  cases h4 : (c == b.cabin)
  rotate_left
  · have HP : Aside (6 = P.mvE x c b) := by show _ = _; rw [P.mvE, if_neg HX1.out, if_neg HX2.out, if_pos (by simpa using h4)]
    go_enter Tryz.func70, Tryz.ntmps70
    go_wp2
    go_quiet (fail)
    go_wp2
    go_ret
    first
      | exact ⟨6, b, rfl, ⟨HP.out, fun h => absurd h (by decide)⟩, fun i _ _ => rfl, below_drewN (Below.refl _ _) _, fun h => absurd h (by decide)⟩
      | exact ⟨6, rfl, b, ⟨HP.out, fun h => absurd h (by decide)⟩, fun i _ _ => rfl, below_drewN (Below.refl _ _) _, fun h => absurd h (by decide)⟩
  have HP : Aside (P.mvE x c b = P.checkE x.s (P.setC b c)) := by show _ = _; rw [P.mvE, if_neg HX1.out, if_neg HX2.out, if_neg (by simpa using h4)]
  go_enter Tryz.func70, Tryz.ntmps70
  go_wp2
  go_quiet (fail)
  have hD : Below U.heap.size U (U.drewN nq) := below_drewN (Below.refl _ _) _
  have hO5 : OwnB (U.drewN nq) base (.slice (some ⟨G, 0, none⟩) n n) lv := OwnC.below HO.out hD
  obtain ⟨p1, p2⟩ := own_put1 (z := (P.setC b c, fo, fc)) (v := .int .i64 c) hO5 HN.out HK.out (j := 5) (by decide) rfl
  have hGU := HGU.out
  have hGM := HGM.out
  have hBW := HBW.out.1
  have hWm := HBW.out.2
  have HO6 : Aside (OwnB ((U.drewN nq).setCell ⟨G, k * 11 + 5, none⟩ (.int .i64 c)) base (.slice (some ⟨G, 0, none⟩) n n) (lv.set k (P.setC b c, fo, fc))) := p1
  have hE5 : Fo.OwnN (U.drewN nq) (G + 1) (.slice fo b.fol.length fc) b.fol := OwnC.below HE.out hD
  have HE6 : Aside (Fo.OwnN ((U.drewN nq).setCell ⟨G, k * 11 + 5, none⟩ (.int .i64 c)) (G + 1) (.slice fo b.fol.length fc) b.fol) := OwnC.apart hE5 p2 (fun r e hv => by cases e; have := (hE5.lt _ hv).1; omega)
  have HS6 : Aside (∀ i, i < U.heap.size → i ≠ G → ((U.drewN nq).setCell ⟨G, k * 11 + 5, none⟩ (.int .i64 c)).heap[i]? = U.heap[i]?) := fun i hi hne => by
    rw [p2.block i hi (by simp; omega)]
    rfl
  have HB6 : Aside (Below base U ((U.drewN nq).setCell ⟨G, k * 11 + 5, none⟩ (.int .i64 c))) := below_gr (hD.mono (by omega)) (by have := hD.size; omega) p2 hGM
  have HW6 : Aside (Below w.heap.size w ((U.drewN nq).setCell ⟨G, k * 11 + 5, none⟩ (.int .i64 c))) := hBW.trans (HB6.out.mono hWm)
  clear p1 p2 hO5 hE5 hD hGU hGM hBW hWm
  go_wp2
  generalize (U.drewN nq).setCell ⟨G, k * 11 + 5, none⟩ (.int .i64 c) = w6 at HO6 HE6 HS6 HB6 HW6 ⊢
  clear c5 f5 am d3
  have HN6 : Aside ((lv.set k (P.setC b c, fo, fc)).length = n) := by show _ = _; rw [List.length_set]; exact HN.out
  have HK6 : Aside ((lv.set k (P.setC b c, fo, fc))[k]? = some (P.setC b c, fo, fc)) := List.getElem?_set_self HKL.out
  have HC6 : Aside (SRow w6 pc x a) := HC.out.below HW6.out
  have d0 : w6.cell? ⟨pc, 0, none⟩ = some (.int .i64 x.s.legs) := HC6.out.cell 0
  have d1 : w6.cell? ⟨pc, 1, none⟩ = some (.int .i64 x.s.souls) := HC6.out.cell 1
  have d2 : w6.cell? ⟨pc, 2, none⟩ = some (.slice a.v.cao x.s.cs.length a.v.cc) := HC6.out.cell 2
  have d3 : w6.cell? ⟨pc, 3, none⟩ = some (.slice a.v.bao x.s.bs.length a.v.bc) := HC6.out.cell 3
  have z0 : w6.cell? ⟨G, k * 11, none⟩ = some (.int .i64 (P.setC b c).id) := (own_cell HO6.out HN6.out HK6.out 0 (by decide)).1
  have z1 : w6.cell? ⟨G, k * 11 + 1, none⟩ = some (.int .i64 (P.setC b c).kind) := (own_cell HO6.out HN6.out HK6.out 1 (by decide)).1
  have z2 : w6.cell? ⟨G, k * 11 + 2, none⟩ = some (.int .i64 (P.setC b c).state) := (own_cell HO6.out HN6.out HK6.out 2 (by decide)).1
  have z3 : w6.cell? ⟨G, k * 11 + 3, none⟩ = some (.int .i64 (P.setC b c).guests) := (own_cell HO6.out HN6.out HK6.out 3 (by decide)).1
  have z4 : w6.cell? ⟨G, k * 11 + 4, none⟩ = some (.bool (P.setC b c).level) := (own_cell HO6.out HN6.out HK6.out 4 (by decide)).1
  have z5 : w6.cell? ⟨G, k * 11 + 5, none⟩ = some (.int .i64 (P.setC b c).cabin) := (own_cell HO6.out HN6.out HK6.out 5 (by decide)).1
  have z6 : w6.cell? ⟨G, k * 11 + 6, none⟩ = some (.int .i64 (P.setC b c).cat) := (own_cell HO6.out HN6.out HK6.out 6 (by decide)).1
  have z7 : w6.cell? ⟨G, k * 11 + 7, none⟩ = some (.int .i64 (P.setC b c).frm) := (own_cell HO6.out HN6.out HK6.out 7 (by decide)).1
  have z8 : w6.cell? ⟨G, k * 11 + 8, none⟩ = some (.int .i64 (P.setC b c).to) := (own_cell HO6.out HN6.out HK6.out 8 (by decide)).1
  have z9 : w6.cell? ⟨G, k * 11 + 9, none⟩ = some (.int .i64 (P.setC b c).til) := (own_cell HO6.out HN6.out HK6.out 9 (by decide)).1
  have z10 : w6.cell? ⟨G, k * 11 + 10, none⟩ = some (.slice fo b.fol.length fc) := (own_cell HO6.out HN6.out HK6.out 10 (by decide)).1
  go_region_held3 (fun u => u.cell? ⟨pc, 0, none⟩ = some (.int .i64 x.s.legs) ∧ u.cell? ⟨pc, 1, none⟩ = some (.int .i64 x.s.souls) ∧ u.cell? ⟨pc, 2, none⟩ = some (.slice a.v.cao x.s.cs.length a.v.cc) ∧ u.cell? ⟨pc, 3, none⟩ = some (.slice a.v.bao x.s.bs.length a.v.bc) ∧ u.cell? ⟨G, k * 11, none⟩ = some (.int .i64 (P.setC b c).id) ∧ u.cell? ⟨G, k * 11 + 1, none⟩ = some (.int .i64 (P.setC b c).kind) ∧ u.cell? ⟨G, k * 11 + 2, none⟩ = some (.int .i64 (P.setC b c).state) ∧ u.cell? ⟨G, k * 11 + 3, none⟩ = some (.int .i64 (P.setC b c).guests) ∧ u.cell? ⟨G, k * 11 + 4, none⟩ = some (.bool (P.setC b c).level) ∧ u.cell? ⟨G, k * 11 + 5, none⟩ = some (.int .i64 (P.setC b c).cabin) ∧ u.cell? ⟨G, k * 11 + 6, none⟩ = some (.int .i64 (P.setC b c).cat) ∧ u.cell? ⟨G, k * 11 + 7, none⟩ = some (.int .i64 (P.setC b c).frm) ∧ u.cell? ⟨G, k * 11 + 8, none⟩ = some (.int .i64 (P.setC b c).to) ∧ u.cell? ⟨G, k * 11 + 9, none⟩ = some (.int .i64 (P.setC b c).til) ∧ u.cell? ⟨G, k * 11 + 10, none⟩ = some (.slice fo b.fol.length fc))
    (first | with_reducible exact ⟨d0, d1, d2, d3, z0, z1, z2, z3, z4, z5, z6, z7, z8, z9, z10⟩ | with_reducible exact ⟨e0, e1, e2, e3, y0, y1, y2, y3, y4, y5, y6, y7, y8, y9, y10⟩ | go_keep)
    (first
      | (go_at_call 71; refine (bookCheck_any x.s a.v (P.setC b c) fo fc _ (HSL.out.ship.below (bvia HW6.out (dr _))) (ents_own (OwnC.below HE6.out (dr _)))).mono ?_; rintro e w7 ⟨rfl, hb7⟩; have hb67 : Below w6.heap.size w6 w7 := bvia (dr _) hb7; have e0 := cellIn hb67 d0; have e1 := cellIn hb67 d1; have e2 := cellIn hb67 d2; have e3 := cellIn hb67 d3; have y0 := cellIn hb67 z0; have y1 := cellIn hb67 z1; have y2 := cellIn hb67 z2; have y3 := cellIn hb67 z3; have y4 := cellIn hb67 z4; have y5 := cellIn hb67 z5; have y6 := cellIn hb67 z6; have y7 := cellIn hb67 z7; have y8 := cellIn hb67 z8; have y9 := cellIn hb67 z9; have y10 := cellIn hb67 z10))
  all_goals
    go_wp2
    go_ret
    first
      | exact ⟨_, P.setC b c, rfl, ⟨HP.out.symm, fun _ => rfl⟩, fun i hi hne => by rw [hb67.block i (Nat.lt_of_lt_of_le hi HB6.out.size)]; exact HS6.out i hi hne, HB6.out.trans (hb67.mono (Nat.le_trans (Nat.le_trans HGM.out (Nat.le_of_lt HGU.out)) HB6.out.size)), fun _ => ⟨fo, fc, OwnC.below HO6.out hb67, OwnC.below HE6.out hb67⟩⟩
      | exact ⟨_, rfl, P.setC b c, ⟨HP.out.symm, fun _ => rfl⟩, fun i hi hne => by rw [hb67.block i (Nat.lt_of_lt_of_le hi HB6.out.size)]; exact HS6.out i hi hne, HB6.out.trans (hb67.mono (Nat.le_trans (Nat.le_trans HGM.out (Nat.le_of_lt HGU.out)) HB6.out.size)), fun _ => ⟨fo, fc, OwnC.below HO6.out hb67, OwnC.below HE6.out hb67⟩⟩

theorem move1_calls : ∀ (args : Array Value) (wx : World), (callFunc 70 args).run Tryz.prog wx = .ok (.enter 70 args) wx := enters_of Tryz.func70 (by kernel_rfl) rfl

end Go.Proofs.YtlamhfbdeinkkaeGreat.St
