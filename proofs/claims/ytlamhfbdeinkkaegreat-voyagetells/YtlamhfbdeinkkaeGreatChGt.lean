/- Package change: the literal of Sure. -/
import Derived.Test.YtlamhfbdeinkkaeGreatTwAt
import Derived.Deep.RegionHeld3
namespace Go.Proofs.YtlamhfbdeinkkaeGreat.St
open Go.RowKit Bk
set_option linter.unusedSimpArgs false
set_option linter.unusedVariables false
set_option maxRecDepth 10000

/-- A store of one cell of an element. -/
theorem own_put1 {w : World} {base G cap n k j : Nat} {lv : List BkV} {y z : BkV} {v : Value} (h : OwnB w base (.slice (some ⟨G, 0, none⟩) n cap) lv) (hn : lv.length = n) (hk : lv[k]? = some y) (hj : j < 11) (hz : cellsV z = (cellsV y).set j v) :
    OwnB (w.setCell ⟨G, k * 11 + j, none⟩ v) base (.slice (some ⟨G, 0, none⟩) n cap) (lv.set k z) ∧ w.grownBy (w.setCell ⟨G, k * 11 + j, none⟩ v) (some G) := by
  subst hn
  obtain ⟨hkl, hky⟩ := List.getElem?_eq_some_iff.1 hk
  have hp := own_put cellsV_len cellsV_one h k z hkl
  rw [List.length_set] at hp
  obtain ⟨cur, h1, h2, h3, _⟩ := own_row h rfl (by omega)
  have hcur : ∃ A R, cur.toList = A ++ cellsV y ++ R ∧ A.length = k * 11 := by
    obtain ⟨hx, hor⟩ := h
    rcases hor with ⟨h4, _⟩ | ⟨g', cap', cur', hv, hgb, hh, hn', hcm, hsz, htk⟩
    · simp at h4
    · simp only [Value.slice.injEq, Option.some.injEq, Addr.mk.injEq, and_true] at hv
      obtain ⟨rfl, _, rfl⟩ := hv
      rw [h1] at hh
      simp only [Option.some.injEq, Obj.cells.injEq] at hh
      obtain rfl := hh.1
      refine ⟨(lv.take k).flatMap cellsV, (lv.drop (k + 1)).flatMap cellsV ++ cur.toList.drop (lv.length * 11), ?_, ?_⟩
      · have e : lv.flatMap cellsV = (lv.take k).flatMap cellsV ++ cellsV y ++ (lv.drop (k + 1)).flatMap cellsV := by
          have hd : lv = lv.take k ++ y :: lv.drop (k + 1) := by
            rw [← hky, ← List.drop_eq_getElem_cons hkl, List.take_append_drop]
          conv => lhs; rw [hd]
          rw [List.flatMap_append, List.flatMap_cons, List.append_assoc]
        rw [← List.append_assoc, ← e, ← htk, List.take_append_drop]
      · rw [flatC_len cellsV_len, List.length_take]
        omega
  obtain ⟨A, R, hc, hA⟩ := hcur
  have hY := cellsV_len y
  have hcl : cur.toList.length = cap * 11 := by simpa using h2
  have hcl2 : A.length + 11 + R.length = cap * 11 := by rw [hc] at hcl; simp [hY] at hcl; omega
  have hv1 : v.oneCell' = true := cellsV_one z v (by rw [hz]; exact List.mem_set (by omega) v)
  have e1 : w.setCell ⟨G, k * 11 + j, none⟩ v = w.setRow G (cur.toList.take (k * 11 + j) ++ [v] ++ cur.toList.drop (k * 11 + j + 1)).toArray :=
    setCells_row w G (k * 11 + j) _ [v] cur h1 (by simp; omega) (fun u hu => by simp at hu; rw [hu]; exact hv1)
  have e2 := setCells_row w G (k * 11) _ (cellsV z) cur h1 (by rw [cellsV_len]; omega) (cellsV_one z)
  have e3 : cur.toList.take (k * 11 + j) ++ [v] ++ cur.toList.drop (k * 11 + j + 1) = cur.toList.take (k * 11) ++ cellsV z ++ cur.toList.drop (k * 11 + (cellsV z).length) := by
    rw [cellsV_len, hc, hz, List.append_assoc A]
    have t1 : (A ++ (cellsV y ++ R)).take (k * 11 + j) = A ++ (cellsV y).take j := by
      rw [List.take_append, List.take_of_length_le (by omega), hA, Nat.add_sub_cancel_left, List.take_append, show j - (cellsV y).length = 0 by omega]
      simp
    have t2 : (A ++ (cellsV y ++ R)).drop (k * 11 + j + 1) = (cellsV y).drop (j + 1) ++ R := by
      rw [List.drop_append, List.drop_of_length_le (by omega), hA, List.nil_append, show k * 11 + j + 1 - k * 11 = j + 1 by omega, List.drop_append, show j + 1 - (cellsV y).length = 0 by omega]
      simp
    have t3 : (A ++ (cellsV y ++ R)).take (k * 11) = A := by
      rw [List.take_append, List.take_of_length_le (by omega), hA]
      simp
    have t4 : (A ++ (cellsV y ++ R)).drop (k * 11 + 11) = R := by
      rw [List.drop_append, List.drop_of_length_le (by omega), hA, List.nil_append, show k * 11 + 11 - k * 11 = 11 by omega, List.drop_append, List.drop_of_length_le (by omega), hY]
      simp
    rw [t1, t2, t3, t4, List.set_eq_take_append_cons_drop, if_pos (by omega)]
    simp [List.append_assoc]
  have e : w.setCell ⟨G, k * 11 + j, none⟩ v = w.setCells G (k * 11) (cellsV z) := by rw [e1, e2, e3]
  rw [e]
  exact hp
theorem own_cell {w : World} {base G cap n k : Nat} {lv : List BkV} {y : BkV} (h : OwnB w base (.slice (some ⟨G, 0, none⟩) n cap) lv) (hn : lv.length = n) (hk : lv[k]? = some y) (j : Nat) (hj : j < 11) : w.cell? ⟨G, k * 11 + j, none⟩ = (cellsV y)[j]? ∧ w.frozen? ⟨G, k * 11 + j, none⟩ = false := by
  obtain ⟨hkl, hky⟩ := List.getElem?_eq_some_iff.1 hk
  refine ⟨?_, (own_there h hn (by omega) j hj).2⟩
  have hs := own_at cellsV_len h
  obtain ⟨b', off, x, cs, h1, h2, h3, h4, h5, h6⟩ := SlAt.get (RC.mono _) hs (Below.refl _ _) k (by omega)
  have hx : x = y := by
    have h0 : lv[k]? = some x := by
      have := congrArg (fun l => l[0]?) h3
      simpa using this
    rw [hk] at h0
    exact (Option.some.inj h0).symm
  subst hx
  simp only [Option.some.injEq, Addr.mk.injEq, and_true] at h1
  obtain ⟨rfl, rfl⟩ := h1
  have hcs : cs = cellsV x := h4
  subst hcs
  have hl := cellsV_len x
  have := h6 j _ (List.getElem?_eq_getElem (by omega))
  rw [Nat.zero_add] at this
  rw [this, List.getElem?_eq_getElem (by omega)]

end Go.Proofs.YtlamhfbdeinkkaeGreat.St
namespace Go.Proofs.YtlamhfbdeinkkaeGreat.St
open Go.RowKit Bk
set_option linter.unusedSimpArgs false
set_option linter.unusedVariables false
set_option maxRecDepth 10000

end Go.Proofs.YtlamhfbdeinkkaeGreat.St
namespace Go.Proofs.YtlamhfbdeinkkaeGreat.St
open Go.RowKit Bk
set_option linter.unusedSimpArgs false
set_option linter.unusedVariables false
set_option maxRecDepth 10000

end Go.Proofs.YtlamhfbdeinkkaeGreat.St
namespace Go.Proofs.YtlamhfbdeinkkaeGreat.St
open Go.RowKit Bk
set_option linter.unusedSimpArgs false
set_option linter.unusedVariables false
set_option maxRecDepth 10000

end Go.Proofs.YtlamhfbdeinkkaeGreat.St
namespace Go.Proofs.YtlamhfbdeinkkaeGreat.St
open Go.RowKit Bk
set_option linter.unusedSimpArgs false
set_option linter.unusedVariables false
set_option maxRecDepth 10000

theorem add_zero {l : List Fo.Ent} {e : Fo.Ent} (h : Fo.P.addE l e = 0) : Fo.P.folE l = 0 ∧ Fo.P.add l e = l ++ [e] ∧ Fo.P.folE (l ++ [e]) = 0 := by
  unfold Fo.P.addE at h
  split at h
  · next h0 => exact ⟨h0, by rw [Fo.P.add, if_pos h0, Fo.P.plus, if_pos h], h⟩
  · next h0 => exact absurd h h0
end Go.Proofs.YtlamhfbdeinkkaeGreat.St
namespace Go.Proofs.YtlamhfbdeinkkaeGreat.St
open Go.RowKit Bk
set_option linter.unusedSimpArgs false
set_option linter.unusedVariables false
set_option maxRecDepth 10000

theorem chg_ch {x : Sail} {id r : Int} {T : Bkg → Int → Bkg → Prop} {y : Sail} (hT : P.SailE x 0 → ∀ (k : Nat) (b b' : Bkg), P.LiveIs x.bks id k → x.bks[k]? = some b → T b 0 b' → P.SailE (P.setB x (x.bks.set k b')) 0) (h : P.Chg x id T r y) :
    (∃ q, P.SailE x q ∧ ¬ q = 0 ∧ r = q ∧ y = P.zeroS) ∨ (P.SailE x 0 ∧ P.Ch x id T r y) := by
  rcases h with h | ⟨hE, h | ⟨k, b, h1, h2, h3⟩⟩
  · exact .inl h
  · exact .inr ⟨hE, .inl h⟩
  · refine .inr ⟨hE, .inr ⟨k, b, h1, h2, ?_⟩⟩
    rcases h3 with ⟨⟨b', e1⟩, e2, e3⟩ | ⟨_, z, q, ⟨b', e1, e3⟩, hz, h4⟩
    · exact ⟨r, b', e1, .inl ⟨e2, rfl, e3⟩⟩
    · have hz0 : P.SailE z 0 := by rw [e3]; exact hT hE k b b' h1 h2 e1
      have hq := SailE.one hz hz0
      rcases h4 with ⟨_, r0, y0⟩ | ⟨q0, _, _⟩
      · exact ⟨0, b', e1, .inr ⟨rfl, r0, by rw [y0, e3]⟩⟩
      · exact absurd hq q0
end Go.Proofs.YtlamhfbdeinkkaeGreat.St
namespace Go.Proofs.YtlamhfbdeinkkaeGreat.St
open Go.RowKit Bk
set_option linter.unusedSimpArgs false
set_option linter.unusedVariables false
set_option maxRecDepth 10000

set_option maxHeartbeats 2000000 in
theorem fares_any (ao : Option Addr) (cap : Nat) (l : List Fo.Ent) (w : World) (hl : Fo.EntsAt w ao cap l) (h100 : l.length ≤ 100) (ha : ∀ x ∈ l, -10000000000 ≤ x.2.2 ∧ x.2.2 ≤ 10000000000) :
    Calls Tryz.prog 121 #[.slice ao l.length cap] w fun e w' => e = .returned (.int .i64 (Fo.P.ftot Fo.P.isFare l)) ∧ Below w.heap.size w w' := by
  have hle := hl.le
  have hmx := hl.max
  unfold maxLen at hmx
  have HA : Aside (∀ x ∈ l, -10000000000 ≤ x.2.2 ∧ x.2.2 ≤ 10000000000) := ha
  clear ha
  have HR : Aside (∀ k, k ≤ l.length → -10000000000 * (k : Int) ≤ Fo.P.ftot Fo.P.isFare (l.take k) ∧ Fo.P.ftot Fo.P.isFare (l.take k) ≤ 10000000000 * (k : Int)) := by
    intro k hk
    have := Fo.ftot_wide Fo.P.isFare (l.take k) (fun x hx => HA.out x (List.mem_of_mem_take hx))
    rw [List.length_take, Nat.min_eq_left hk] at this
    exact this
  go_enter Tryz.func121, Tryz.ntmps121
  go_wp2
  go_loopg [3, 8] l.length (fun g v i wr => ∃ (k : Nat), k ≤ l.length ∧ g = l.length - k ∧ i = .int .i64 k ∧ v = .int .i64 (Fo.P.ftot Fo.P.isFare (l.take k)) ∧ Below w.heap.size w wr)
  case atStart => exact ⟨0, Nat.zero_le _, rfl, rfl, by simp [Fo.P.ftot], Below.refl _ _⟩
  case round =>
    obtain ⟨k, hk, rfl, rfl, rfl, hB⟩ := hrel
    by_cases hlt : k < l.length
    · obtain ⟨b, off, x, y, z, rfl, hbl, hd, e0, e1, e2⟩ := Fo.EntsAt.get hl hB k hlt
      have hr := HR.out k hk
      have hz2 : -10000000000 ≤ z ∧ z ≤ 10000000000 := HA.out _ (Fo.memA hlt hd)
      have HS : Aside (Fo.P.ftot Fo.P.isFare (l.take (k + 1)) = Fo.P.ftot Fo.P.isFare (l.take k) + (if Fo.P.isFare (x, y, z) = true then z else 0)) := by
        show _ = _
        rw [List.take_succ_eq_append_getElem hlt, Fo.getA hlt hd, Fo.ftot_append]
        simp [Fo.P.ftot]
      have HB : Aside (Below w.heap.size w wr) := hB
      clear hd hB
      generalize Fo.P.ftot Fo.P.isFare (l.take k) = S at HS hr
      by_cases h1 : y = 1
      · have HS2 : Aside (Fo.P.ftot Fo.P.isFare (l.take (k + 1)) = S + z) := by show _ = _; rw [HS.out]; simp [Fo.P.isFare, h1]
        clear HS
        subst h1
        go_wp2
        go_roundg (l.length - (k + 1))
        case measure => omega
        case rel => exact ⟨k + 1, by omega, rfl, by go_num, by rw [HS2.out], bvia HB.out (al _ _)⟩
      · have h1' : (y == 1) = false := by simpa using h1
        by_cases h4 : y = 4
        · have HS2 : Aside (Fo.P.ftot Fo.P.isFare (l.take (k + 1)) = S + z) := by show _ = _; rw [HS.out]; simp [Fo.P.isFare, h4]
          clear HS
          subst h4
          go_wp2
          go_roundg (l.length - (k + 1))
          case measure => omega
          case rel => exact ⟨k + 1, by omega, rfl, by go_num, by rw [HS2.out], bvia HB.out (al _ _)⟩
        · have h4' : (y == 4) = false := by simpa using h4
          have HS2 : Aside (Fo.P.ftot Fo.P.isFare (l.take (k + 1)) = S) := by show _ = _; rw [HS.out]; simp [Fo.P.isFare, h1, h4]
          clear HS
          go_wp2
          go_roundg (l.length - (k + 1))
          case measure => omega
          case rel => exact ⟨k + 1, by omega, rfl, by go_num, by rw [HS2.out], bvia HB.out (al _ _)⟩
    · obtain rfl : k = l.length := by omega
      rw [List.take_length]
      go_wp2
      go_ret
      exact ⟨rfl, hB⟩

end Go.Proofs.YtlamhfbdeinkkaeGreat.St
namespace Go.Proofs.YtlamhfbdeinkkaeGreat.St
open Go.RowKit Bk
set_option linter.unusedSimpArgs false
set_option linter.unusedVariables false
set_option maxRecDepth 10000

def P.mx (n : Int) : Int := if 0 < n then n else 0
/-- The penalty of a booking that is cancelled; what is wrong with it. -/
def P.canE (x : Sail) (b : Bkg) : Int := if b.state = 1 then 0 else Fo.P.penE x.L x.al x.th x.B x.dn x.s.cs.length x.s.legs (P.mx (Fo.P.ftot Fo.P.isFare b.fol)) (P.mx (x.lvs - x.day))
def P.canP (x : Sail) (b : Bkg) : Int := if b.state = 1 then 0 else Fo.P.pen x.L x.al x.th x.B x.dn x.s.cs.length x.s.legs (P.mx (Fo.P.ftot Fo.P.isFare b.fol)) (P.mx (x.lvs - x.day))

set_option maxHeartbeats 4000000 in
theorem canPen_any (x : Sail) (a : SailA) (b : Bkg) (fo : Option Addr) (fc : Nat) (w : World) (hs : SailAt w x a) (hf : Fo.EntsAt w fo fc b.fol) (h100 : b.fol.length ≤ 100) (ha : ∀ x ∈ b.fol, -10000000000 ≤ x.2.2 ∧ x.2.2 ≤ 10000000000) (hd0 : 0 ≤ x.day) (hd1 : x.day ≤ 9999) (hl0 : 0 ≤ x.lvs) (hl1 : x.lvs ≤ 9999) :
    Calls Tryz.prog 68 #[V.sail x a, V.bk b fo fc] w fun e w' => e = .returned (.tuple #[.int .i64 (P.canP x b), .int .i64 (P.canE x b)]) ∧ Below w.heap.size w w' := by
  have hb0 : Below w.heap.size w ((w.alloc (.cells (C.sail x a) 96)).alloc (.cells (C.bk b fo fc) 37)) := bvia (al _ _) (al _ _)
  by_cases h1 : b.state = 1
  · have HP : Aside (P.canP x b = 0 ∧ P.canE x b = 0) := by show _ ∧ _; rw [P.canP, P.canE, if_pos h1]; exact ⟨rfl, by rw [if_pos h1]⟩
    go_enter Tryz.func68, Tryz.ntmps68
    go_wp2
    go_ret2
    exact ⟨by rw [HP.out.1, HP.out.2]; rfl, by go_grown⟩
  have h1' : (b.state == 1) = false := by simpa using h1
  have HPP : Aside (P.canP x b = Fo.P.pen x.L x.al x.th x.B x.dn x.s.cs.length x.s.legs (P.mx (Fo.P.ftot Fo.P.isFare b.fol)) (P.mx (x.lvs - x.day))) := by show _ = _; rw [P.canP, if_neg h1]
  have HPE : Aside (P.canE x b = Fo.P.penE x.L x.al x.th x.B x.dn x.s.cs.length x.s.legs (P.mx (Fo.P.ftot Fo.P.isFare b.fol)) (P.mx (x.lvs - x.day))) := by show _ = _; rw [P.canE, if_neg h1]
  clear h1
  have hw : IntKind.i64.wrap (x.lvs - x.day) = x.lvs - x.day := by rw [IntKind.wrap_i64]; omega
  obtain ⟨m1, hm1⟩ : ∃ m, (if 0 < Fo.P.ftot Fo.P.isFare b.fol then Fo.P.ftot Fo.P.isFare b.fol else 0) = m := ⟨_, rfl⟩
  obtain ⟨m2, hm2⟩ : ∃ m, (if x.day < x.lvs then x.lvs - x.day else 0) = m := ⟨_, rfl⟩
  have e1 : P.mx (Fo.P.ftot Fo.P.isFare b.fol) = m1 := hm1
  have e2 : P.mx (x.lvs - x.day) = m2 := by
    rw [P.mx, ← hm2]
    by_cases h : x.day < x.lvs
    · rw [if_pos (by omega), if_pos h]
    · rw [if_neg (by omega), if_neg h]
  rw [e1, e2] at HPP HPE
  clear e1 e2
  have HX : Aside (SRow ((w.alloc (.cells (C.sail x a) 96)).alloc (.cells (C.bk b fo fc) 37)) w.heap.size x a) := (RowIs.new w (C.sail x a) 96).below (al _ _)
  have HY : Aside (RowIs ((w.alloc (.cells (C.sail x a) 96)).alloc (.cells (C.bk b fo fc) 37)) (w.heap.size + 1) (C.bk b fo fc)) := by
    have := RowIs.new (w.alloc (.cells (C.sail x a) 96)) (C.bk b fo fc) 37
    rwa [World.size_alloc] at this
  have HB : Aside (Below w.heap.size w ((w.alloc (.cells (C.sail x a) 96)).alloc (.cells (C.bk b fo fc) 37))) := hb0
  have HSA : Aside (SailAt w x a) := hs
  have HFE : Aside (Fo.EntsAt w fo fc b.fol) := hf
  have HAM : Aside (∀ x ∈ b.fol, -10000000000 ≤ x.2.2 ∧ x.2.2 ≤ 10000000000) := ha
  clear hs hf ha hb0
  go_enter Tryz.func68, Tryz.ntmps68
  go_wp2
  change Code.wp Tryz.prog _ _ _ ((w.alloc (.cells (C.sail x a) 96)).alloc (.cells (C.bk b fo fc) 37))
  generalize (w.alloc (.cells (C.sail x a) 96)).alloc (.cells (C.bk b fo fc) 37) = wB at HX HY HB ⊢
  have k0 : wB.cell? ⟨w.heap.size, 0, none⟩ = some (.int .i64 x.s.legs) := HX.out.cell 0
  have k2 : wB.cell? ⟨w.heap.size, 2, none⟩ = some (.slice a.v.cao x.s.cs.length a.v.cc) := HX.out.cell 2
  have k4 : wB.cell? ⟨w.heap.size, 4, none⟩ = some (.slice a.lo x.L.length a.lc) := HX.out.cell 4
  have k5 : wB.cell? ⟨w.heap.size, 5, none⟩ = some (.int .i64 x.al) := HX.out.cell 5
  have k6 : wB.cell? ⟨w.heap.size, 6, none⟩ = some (.int .i64 x.th) := HX.out.cell 6
  have k7 : wB.cell? ⟨w.heap.size, 7, none⟩ = some (.slice a.bo x.B.length a.bc) := HX.out.cell 7
  have k8 : wB.cell? ⟨w.heap.size, 8, none⟩ = some (.int .i64 x.dn) := HX.out.cell 8
  have k9 : wB.cell? ⟨w.heap.size, 9, none⟩ = some (.int .i64 x.day) := HX.out.cell 9
  have k10 : wB.cell? ⟨w.heap.size, 10, none⟩ = some (.int .i64 x.lvs) := HX.out.cell 10
  have kf : wB.cell? ⟨w.heap.size + 1, 10, none⟩ = some (.slice fo b.fol.length fc) := HY.out.cell 10
  go_region_held3 (fun u => u.cell? ⟨w.heap.size, 0, none⟩ = some (.int .i64 x.s.legs) ∧ u.cell? ⟨w.heap.size, 2, none⟩ = some (.slice a.v.cao x.s.cs.length a.v.cc) ∧ u.cell? ⟨w.heap.size, 4, none⟩ = some (.slice a.lo x.L.length a.lc) ∧ u.cell? ⟨w.heap.size, 5, none⟩ = some (.int .i64 x.al) ∧ u.cell? ⟨w.heap.size, 6, none⟩ = some (.int .i64 x.th) ∧ u.cell? ⟨w.heap.size, 7, none⟩ = some (.slice a.bo x.B.length a.bc) ∧ u.cell? ⟨w.heap.size, 8, none⟩ = some (.int .i64 x.dn) ∧ u.cell? ⟨w.heap.size, 9, none⟩ = some (.int .i64 x.day) ∧ u.cell? ⟨w.heap.size, 10, none⟩ = some (.int .i64 x.lvs) ∧ u.cell? ⟨w.heap.size + 1, 10, none⟩ = some (.slice fo b.fol.length fc))
    (first | with_reducible exact ⟨z0, z2, z4, z5, z6, z7, z8, z9, z10, zf⟩ | with_reducible exact ⟨y0, y2, y4, y5, y6, y7, y8, y9, y10, yf⟩ | with_reducible exact ⟨k0, k2, k4, k5, k6, k7, k8, k9, k10, kf⟩ | go_keep)
    (first
      | (go_at_call 121; refine (fares_any fo fc b.fol _ (SlAt.below Fo.REnt.mono HFE.out (bvia HB.out (dr _))) h100 HAM.out).mono ?_; rintro e w5 ⟨rfl, hb5⟩; have hB5 : Below wB.heap.size wB w5 := bvia (dr _) hb5; have y0 : w5.cell? ⟨w.heap.size, 0, none⟩ = some (.int .i64 x.s.legs) := (RowIs.below HX.out hB5).cell 0; have y2 : w5.cell? ⟨w.heap.size, 2, none⟩ = some (.slice a.v.cao x.s.cs.length a.v.cc) := (RowIs.below HX.out hB5).cell 2; have y4 : w5.cell? ⟨w.heap.size, 4, none⟩ = some (.slice a.lo x.L.length a.lc) := (RowIs.below HX.out hB5).cell 4; have y5 : w5.cell? ⟨w.heap.size, 5, none⟩ = some (.int .i64 x.al) := (RowIs.below HX.out hB5).cell 5; have y6 : w5.cell? ⟨w.heap.size, 6, none⟩ = some (.int .i64 x.th) := (RowIs.below HX.out hB5).cell 6; have y7 : w5.cell? ⟨w.heap.size, 7, none⟩ = some (.slice a.bo x.B.length a.bc) := (RowIs.below HX.out hB5).cell 7; have y8 : w5.cell? ⟨w.heap.size, 8, none⟩ = some (.int .i64 x.dn) := (RowIs.below HX.out hB5).cell 8; have y9 : w5.cell? ⟨w.heap.size, 9, none⟩ = some (.int .i64 x.day) := (RowIs.below HX.out hB5).cell 9; have y10 : w5.cell? ⟨w.heap.size, 10, none⟩ = some (.int .i64 x.lvs) := (RowIs.below HX.out hB5).cell 10; have yf : w5.cell? ⟨w.heap.size + 1, 10, none⟩ = some (.slice fo b.fol.length fc) := (RowIs.below HY.out hB5).cell 10)
      | (go_at_call 120; refine (Fo.penalty_any a.lo a.bo a.lc a.bc x.L x.al x.th x.B x.dn _ _ _ _ _ (HSA.out.fare.below (bvia HB.out hB5))).mono ?_; rintro e w6 ⟨rfl, hb6⟩; have hB6 : Below wB.heap.size wB w6 := bvia hB5 hb6; have z0 : w6.cell? ⟨w.heap.size, 0, none⟩ = some (.int .i64 x.s.legs) := (RowIs.below HX.out hB6).cell 0; have z2 : w6.cell? ⟨w.heap.size, 2, none⟩ = some (.slice a.v.cao x.s.cs.length a.v.cc) := (RowIs.below HX.out hB6).cell 2; have z4 : w6.cell? ⟨w.heap.size, 4, none⟩ = some (.slice a.lo x.L.length a.lc) := (RowIs.below HX.out hB6).cell 4; have z5 : w6.cell? ⟨w.heap.size, 5, none⟩ = some (.int .i64 x.al) := (RowIs.below HX.out hB6).cell 5; have z6 : w6.cell? ⟨w.heap.size, 6, none⟩ = some (.int .i64 x.th) := (RowIs.below HX.out hB6).cell 6; have z7 : w6.cell? ⟨w.heap.size, 7, none⟩ = some (.slice a.bo x.B.length a.bc) := (RowIs.below HX.out hB6).cell 7; have z8 : w6.cell? ⟨w.heap.size, 8, none⟩ = some (.int .i64 x.dn) := (RowIs.below HX.out hB6).cell 8; have z9 : w6.cell? ⟨w.heap.size, 9, none⟩ = some (.int .i64 x.day) := (RowIs.below HX.out hB6).cell 9; have z10 : w6.cell? ⟨w.heap.size, 10, none⟩ = some (.int .i64 x.lvs) := (RowIs.below HX.out hB6).cell 10; have zf : w6.cell? ⟨w.heap.size + 1, 10, none⟩ = some (.slice fo b.fol.length fc) := (RowIs.below HY.out hB6).cell 10))
  all_goals
    go_wp2
    go_ret2
    exact ⟨by rw [HPP.out, HPE.out]; rfl, bvia HB.out hB6⟩

end Go.Proofs.YtlamhfbdeinkkaeGreat.St
namespace Go.Proofs.YtlamhfbdeinkkaeGreat.St
open Go.RowKit Bk
set_option linter.unusedSimpArgs false
set_option linter.unusedVariables false
set_option maxRecDepth 10000

def P.goneB (b : Bkg) (l : List Fo.Ent) : Bkg := ⟨b.id, b.kind, 3, b.guests, b.level, b.cabin, b.cat, b.frm, b.to, 0, l⟩
theorem hasC_gone {c : Int} {g : Bkg} (hg : g.state = 3) : P.hasC c g = false := by simp [P.hasC, P.live, hg]
theorem opn_gone {g : Bkg} (hg : g.state = 3) : P.opn g = false := by simp [P.opn, hg]
theorem mine_gone {c : Int} {A B : List Bkg} {g : Bkg} (hg : g.state = 3) : P.mine c (A ++ g :: B) = P.mine c (A ++ B) := by
  rw [P.mine, P.mine, List.filter_append, List.filter_append, List.filter_cons, hasC_gone hg]
  rfl
theorem soul_gone {k : Int} {A B : List Bkg} {g : Bkg} (hg : g.state = 3) : P.soul k (A ++ g :: B) = P.soul k (A ++ B) := by
  rw [soul_append, soul_append, P.soul]
  have : P.onLeg k g = 0 := by
    rw [P.onLeg, if_neg]
    simp [P.live, hg]
  omega
theorem pids_gone {A B : List Bkg} {g : Bkg} (hg : g.state = 3) : P.pids (A ++ g :: B) = P.pids (A ++ B) := by
  rw [P.pids, P.pids, List.filter_append, List.filter_append, List.filter_cons, opn_gone hg]
  rfl
theorem elC_gone {s : Vsl} {A B : List Bkg} {g b : Bkg} {c : Nat} (hg : g.state = 3) : P.elC s (A ++ g :: B) b c = P.elC s (A ++ B) b c := by
  rw [P.elC, P.elC, mine_gone hg]
theorem edgs_gone {s : Vsl} {A B : List Bkg} {g b : Bkg} {i n : Nat} (hg : g.state = 3) : P.edgs s (A ++ g :: B) i b n = P.edgs s (A ++ B) i b n := by
  have e : P.elC s (A ++ g :: B) b = P.elC s (A ++ B) b := funext (fun c => elC_gone hg)
  rw [P.edgs, P.edgs, e]
theorem pedg_far {s : Vsl} {A B : List Bkg} {g : Bkg} (hg : g.state = 3) (m : List Bkg) (i : Nat) : P.pedg s (A ++ g :: B) i m = P.pedg s (A ++ B) i m := by
  induction m generalizing i with
  | nil => rfl
  | cons y t ih => rw [P.pedg, P.pedg, edgs_gone hg, ih, ih]
theorem pedg_in {s : Vsl} {l A B : List Bkg} {g : Bkg} (hg : g.state = 3) (i : Nat) : P.pedg s l i (A ++ g :: B) = P.pedg s l i (A ++ B) := by
  induction A generalizing i with
  | nil =>
    rw [List.nil_append, List.nil_append, P.pedg, if_neg]
    rw [opn_gone hg]
    decide
  | cons y t ih => rw [List.cons_append, List.cons_append, P.pedg, P.pedg, ih, ih]
theorem pedg_gone {s : Vsl} {A B : List Bkg} {g : Bkg} (hg : g.state = 3) : P.pedg s (A ++ g :: B) 0 (A ++ g :: B) = P.pedg s (A ++ B) 0 (A ++ B) := by
  rw [pedg_far hg, pedg_in hg]
theorem gone_bkE {s : Vsl} {b : Bkg} {l : List Fo.Ent} (hb : P.bkE s b = 0) (h : Fo.P.folE l = 0) : P.bkE s (P.goneB b l) = 0 := by
  have hk : P.kindE s (P.goneB b l) = P.kindE s b := rfl
  unfold P.bkE at hb ⊢
  rw [hk]
  show (if (P.btw b.kind 1 2 && P.btw 3 1 3) = true then (if (P.btw b.id 1 999999 && P.btw b.guests 1 4) = true then (if P.chk b.frm b.to s.legs = 0 then (if P.kindE s b = 0 then (if P.btw 0 0 9999 = true then (if (0 : Int) ≠ 0 ∧ (3 : Int) ≠ 1 then 1 else Fo.P.folE l) else 3) else P.kindE s b) else P.chk b.frm b.to s.legs) else 3) else 7) = 0
  have e1 : P.btw 3 1 3 = true := by decide
  have e2 : P.btw 0 0 9999 = true := by decide
  have e3 : ¬ ((0 : Int) ≠ 0 ∧ (3 : Int) ≠ 1) := by simp
  split at hb
  · next h1 =>
    rw [if_pos (by rw [Bool.and_eq_true] at h1 ⊢; exact ⟨h1.1, e1⟩)]
    split at hb
    · next h2 =>
      rw [if_pos h2]
      split at hb
      · next h3 =>
        rw [if_pos h3]
        split at hb
        · next h4 => rw [if_pos h4, if_pos e2, if_neg e3]; exact h
        · next h4 => exact absurd hb h4
      · next h3 => exact absurd hb h3
    · exact absurd hb (by decide)
  · exact absurd hb (by decide)
theorem set_split {α : Type} {l : List α} {k : Nat} {b g : α} (hk : l[k]? = some b) : l = l.take k ++ b :: l.drop (k + 1) ∧ l.set k g = l.take k ++ g :: l.drop (k + 1) := by
  obtain ⟨hkl, e⟩ := List.getElem?_eq_some_iff.1 hk
  refine ⟨?_, ?_⟩
  · conv => lhs; rw [← List.take_append_drop k l, List.drop_eq_getElem_cons hkl, e]
  · rw [List.set_eq_take_append_cons_drop, if_pos hkl]
/-- One that goes leaves a sailing right, whatever its folio is, if that is right. -/
theorem gone_right {x : Sail} {k : Nat} {b : Bkg} {l : List Fo.Ent} (hE : P.SailE x 0) (hk : x.bks[k]? = some b) (h : Fo.P.folE l = 0) : P.SailE (P.setB x (x.bks.set k (P.goneB b l))) 0 := by
  have hg : (P.goneB b l).state = 3 := rfl
  obtain ⟨hp, hf, h0, hbk, h16, ht, hm, c, hc, hcn⟩ := sail_ok hE
  obtain ⟨_, hI, hcl⟩ := pre_zero hp
  obtain ⟨hr1, hr2⟩ := bksI_rise hI
  obtain ⟨e1, e2⟩ := set_split (g := P.goneB b l) hk
  obtain ⟨hL, _, _⟩ := sail_less e1 hE
  obtain ⟨_, _, _, _, _, ht', hm', c', hc', hcn'⟩ := sail_ok hL
  have hall : ∀ z ∈ x.bks.set k (P.goneB b l), P.bkE x.s z = 0 := fun z hz => by
    rcases List.mem_or_eq_of_mem_set hz with h1 | rfl
    · exact hbk z h1
    · exact gone_bkE (hbk b (List.mem_of_getElem? hk)) h
  have hf' : P.frame (P.setB x (x.bks.set k (P.goneB b l))) = 0 := by
    obtain ⟨g1, g2, g3, g4, g5⟩ := frame_zero hf
    refine frame_ok g1 g2 (by rw [Bool.and_eq_true]; exact ⟨g3, g4⟩) ?_
    show ¬ 16 < (x.bks.set k (P.goneB b l)).length
    rw [List.length_set]
    omega
  have hids : (x.bks.set k (P.goneB b l)).map (fun b => b.id) = x.bks.map (fun b => b.id) := by
    rw [e2]
    conv => rhs; rw [e1]
    rw [List.map_append, List.map_append, List.map_cons, List.map_cons]
    rfl
  have hrise : (x.bks.set k (P.goneB b l)).Pairwise (fun a b => a.id < b.id) := by
    have h1 : (x.bks.map (fun b => b.id)).Pairwise (· < ·) := List.pairwise_map.2 hr2
    rw [← hids] at h1
    exact List.pairwise_map.1 h1
  have hI' : P.bksI x.s 0 (x.bks.set k (P.goneB b l)) = 0 := bksI_of hall (fun z hz => by
    have := (bk_ok (hall z hz)).2.2.2.1
    omega) hrise
  have hp' : P.pre (P.setB x (x.bks.set k (P.goneB b l))) = 0 := by
    refine pre_ok hf' hI' ?_
    rw [List.any_eq_false] at hcl ⊢
    intro z hz
    rcases List.mem_or_eq_of_mem_set hz with h1 | rfl
    · exact hcl z h1
    · simp [P.clB, P.live, hg]
  refine .inr ⟨hp', 0, .inr (.inr ⟨?_, ?_, c', ?_, ?_⟩), rfl⟩
  · rw [← ht']
    show ((List.range x.s.bs.length).any fun d => !P.addsB x.s.legs (P.mine (d : Nat) (x.bks.set k (P.goneB b l)))) = ((List.range x.s.bs.length).any fun d => !P.addsB x.s.legs (P.mine (d : Nat) (x.bks.take k ++ x.bks.drop (k + 1))))
    rw [e2]
    simp only [mine_gone hg]
  · rw [← hm']
    have e : P.soulsL x.s.legs.toNat (x.bks.set k (P.goneB b l)) = P.soulsL x.s.legs.toNat (x.bks.take k ++ x.bks.drop (k + 1)) := List.map_congr_left (fun j _ => by rw [e2, soul_gone hg])
    show decide (x.s.souls < P.mst 0 (P.soulsL x.s.legs.toNat (x.bks.set k (P.goneB b l)))) = decide (x.s.souls < P.mst 0 (P.soulsL x.s.legs.toNat (x.bks.take k ++ x.bks.drop (k + 1))))
    rw [e]
  · show Ma.MaxM (P.pedg x.s (x.bks.set k (P.goneB b l)) 0 (x.bks.set k (P.goneB b l))) c'
    rw [e2, pedg_gone hg]
    exact hc'
  · rw [if_neg]
    show ¬ c' < (P.pids (x.bks.set k (P.goneB b l))).length
    rw [e2, pids_gone hg]
    show ¬ c' < (P.pids (P.setB x (x.bks.take k ++ x.bks.drop (k + 1))).bks).length
    omega
/-- What Cancel does. -/
def P.cnE (x : Sail) (b : Bkg) : Int := if P.canE x b = 0 then Fo.P.canE b.fol x.day (P.canP x b) else P.canE x b
def P.cnB (x : Sail) (b : Bkg) : Bkg := P.goneB b (Fo.P.can b.fol x.day (P.canP x b))
def P.cnT (x : Sail) (b : Bkg) (e : Int) (b' : Bkg) : Prop := e = P.cnE x b ∧ (e = 0 → b' = P.cnB x b)
theorem cn_right {x : Sail} {k : Nat} {b b' : Bkg} (hE : P.SailE x 0) (hk : x.bks[k]? = some b) (h : P.cnT x b 0 b') : P.SailE (P.setB x (x.bks.set k b')) 0 := by
  have h1 : Fo.P.canE b.fol x.day (P.canP x b) = 0 := by
    have := h.1.symm
    rw [P.cnE] at this
    split at this
    · exact this
    · next h1 => exact absurd this h1
  obtain ⟨_, _, _, h2, h3⟩ := Fo.can_some h1
  rw [h.2 rfl]
  exact gone_right hE hk (by rw [h3]; exact h2)

end Go.Proofs.YtlamhfbdeinkkaeGreat.St
