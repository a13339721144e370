import Derived.Test.YtlamhfbdeinkkaeGreatShDt
import Derived.Test.YtlamhfbdeinkkaeGreatShCt
set_option maxRecDepth 10000
/- The walk of the reference's CheckShip. -/
namespace Go.Proofs.YtlamhfbdeinkkaeGreat.Sh
open Go.RowKit
set_option linter.unusedSimpArgs false
set_option linter.unusedVariables false
set_option linter.unnecessarySimpa false

theorem bytes_ne {a b : ByteArray} (h : ¬ a = b) : (a.toList == b.toList) = false := by
  rw [beq_eq_false_iff_ne]
  intro e
  rw [ByteArray.toList_eq, ByteArray.toList_eq] at e
  exact h (ByteArray.ext (Array.toList_inj.1 e))

theorem meet_form {l : List ByteArray} {s : ByteArray} (h : P.name s = false) : P.meetE l s = 1 := by rw [P.meetE, if_neg (by simp [h])]
theorem meet_twice {l : List ByteArray} {s : ByteArray} (h : P.name s = true) (h2 : P.hasName l s = true) : P.meetE l s = 6 := by rw [P.meetE, if_pos h, if_pos h2]
theorem meet_ok {l : List ByteArray} {s : ByteArray} (h : P.name s = true) (h2 : P.hasName l s = false) : P.meetE l s = 0 := by rw [P.meetE, if_pos h, if_neg (by simp [h2])]

set_option maxRecDepth 100000 in
set_option maxHeartbeats 8000000 in
theorem refCheck_in (legs souls : Int) (cao bao : Option Addr) (cc bc : Nat) (cs : List Cat) (bs : List Cab) (w : World) (hs : ShipAt w cao bao cc bc cs bs) (h0 : P.sizeE legs souls cs.length bs.length = 0) :
    Calls Tryz.prog 72 #[.agg #[.int .i64 legs, .int .i64 souls, .slice cao cs.length cc, .slice bao bs.length bc]] w fun e w' => e = .returned (.int .i64 (P.shipE legs souls cs bs)) ∧ Below w.heap.size w w' := by
  have HE : Aside (P.shipE legs souls cs bs = (if P.cats cs.length [] cs = 0 then (if P.circle cs = true then 4 else P.cabs cs.length [] bs) else P.cats cs.length [] cs)) := by show _ = _; rw [P.shipE, if_pos h0]
  obtain ⟨hl1, hl7, hs1, hs60, hn1, hn5, hb1, hb12⟩ := size_ok h0
  have t1 : P.btw legs 1 7 = true := by simp [P.btw]; omega
  have t2 : P.btw souls 1 60 = true := by simp [P.btw]; omega
  have HS : Aside (ShipAt w cao bao cc bc cs bs) := hs
  obtain ⟨cb, co, rfl, hcg⟩ := CatsAt.all hs.cats (by omega)
  obtain ⟨db, dof, rfl, hdg⟩ := CabsAt.all hs.cabs (by omega)
  have HCG : Aside _ := hcg
  have HDG : Aside _ := hdg
  clear hs h0 hcg hdg hl1 hl7 hs1 hs60
  have e1 : decide ((5 : Int) < (cs.length : Int)) = false := decide_eq_false (by omega)
  have e2 : decide ((12 : Int) < (bs.length : Int)) = false := decide_eq_false (by omega)
  have e3 : ((cs.length : Int) == 0) = false := beq_eq_false_iff_ne.2 (by omega)
  have e4 : ((bs.length : Int) == 0) = false := beq_eq_false_iff_ne.2 (by omega)
  go_enter Tryz.func72, Tryz.ntmps72
  go_wp2_with (go_at_call 74; refine (between2_any _ _ _ _).mono ?_; rintro e w1 ⟨rfl, rfl⟩; first | rw [t1] | rw [t2])
  clear e1 e2 e3 e4
  go_loopg [3] cs.length (fun m iv wx => ∃ (i : Nat), i ≤ cs.length ∧ m = cs.length - i ∧ iv = .int .i64 i ∧ Aside (P.cats cs.length (P.names cs i) (cs.drop i) = P.cats cs.length [] cs) ∧ wx.cell? ⟨w.heap.size, 0, none⟩ = some (.int .i64 legs) ∧ wx.cell? ⟨w.heap.size, 1, none⟩ = some (.int .i64 souls) ∧ wx.cell? ⟨w.heap.size, 2, none⟩ = some (.slice (some ⟨cb, co, none⟩) cs.length cc) ∧ wx.cell? ⟨w.heap.size, 3, none⟩ = some (.slice (some ⟨db, dof, none⟩) bs.length bc) ∧ Below w.heap.size w wx)
  case atStart => exact ⟨0, Nat.zero_le _, rfl, rfl, rfl, by simp, by simp, by simp, by simp, by go_grown⟩
  case round =>
    obtain ⟨i, hi, rfl, rfl, HC, c0, c1, c2, c3, hB⟩ := hrel
    by_cases hil : i < cs.length
    · obtain ⟨hao, hcap, k0, k1, hin, hsz⟩ := HCG.out i hil
      have k0' := cellIn hB k0
      have k1' := cellIn hB k1
      have i0 : (0 : Int) ≤ i := by omega
      have i1 : (i : Int) < cs.length := by omega
      have HAT := cats_at (n := cs.length) hil
      have HA : Aside (P.cats cs.length [] cs = (if P.meetE (P.names cs i) cs[i].1 = 0 then (if P.high cs.length [] cs[i].2 = 0 then P.cats cs.length (P.names cs (i + 1)) (cs.drop (i + 1)) else P.high cs.length [] cs[i].2) else P.meetE (P.names cs i) cs[i].1)) := HC.out.symm.trans HAT
      clear HAT HC k0 k1
      generalize hnm : cs[i].1 = nm at k0' hsz
      generalize hhl : cs[i].2 = hl at k1' hin
      rw [hnm, hhl] at HA
      have HNM : Aside (cs[i].1 = nm ∧ cs[i].2 = hl) := ⟨hnm, hhl⟩
      clear hnm hhl
      cases hname : P.name nm
      · have HV : Aside (P.shipE legs souls cs (bs) = 1) := by
          show _ = _
          rw [HE.out, HA.out, meet_form hname]; simp
        go_wp2_with (go_at_call 125; refine (refName_any nm _ hsz).mono ?_; rintro e w1 ⟨rfl, rfl⟩; rw [hname])
        go_ret
        exact ⟨ret_int HV.out.symm, bvia hB (by go_grown)⟩
      · go_wp2_with (go_at_call 125; refine (refName_any nm _ hsz).mono ?_; rintro e w1 ⟨rfl, rfl⟩; rw [hname])
        have z0 : (wr.alloc (.cells #[.string nm, .slice hao hl.length hcap] 141)).cell? ⟨wr.heap.size, 0, none⟩ = some (.string nm) := by simp
        have z1 : (wr.alloc (.cells #[.string nm, .slice hao hl.length hcap] 141)).cell? ⟨wr.heap.size, 1, none⟩ = some (.slice hao hl.length hcap) := by simp
        have z2 : Below wr.heap.size wr (wr.alloc (.cells #[.string nm, .slice hao hl.length hcap] 141)) := by go_grown
        generalize wr.alloc (.cells #[.string nm, .slice hao hl.length hcap] 141) = wy at z0 z1 z2 ⊢
        have y0 := cellIn z2 c0
        have y1 := cellIn z2 c1
        have y2 := cellIn z2 c2
        have y3 := cellIn z2 c3
        have hBy := bvia hB z2
        clear c0 c1 c2 c3 k0' k1' hB z2
        go_loopg [5] i (fun m kv wx => ∃ (k : Nat), k ≤ i ∧ m = i - k ∧ kv = .int .i64 k ∧ Aside (∀ j (hj : j < k) (hj' : j < cs.length), cs[j].1 ≠ nm) ∧ Below wy.heap.size wy wx)
        case atStart => exact ⟨0, Nat.zero_le _, rfl, rfl, fun j hj => by omega, Below.refl _ _⟩
        case round =>
          obtain ⟨k, hk, rfl, rfl, HK, hBx⟩ := hrel
          by_cases hkl : k < i
          · have x0 := cellIn hBx z0
            have x2 := cellIn hBx y2
            obtain ⟨_, _, n0, _⟩ := HCG.out k (by omega)
            have x4 := cellIn hBx (cellIn hBy n0)
            clear n0
            have p0 : (0 : Int) ≤ k := by omega
            have p1 : (k : Int) < cs.length := by omega
            generalize hnk : (cs[k]'(by omega)).1 = nk at x4
            by_cases e : nk = nm
            · subst e
              have HV : Aside (P.shipE legs souls cs bs = 6) := by
                show _ = _
                rw [HE.out, HA.out, meet_twice hname (names_has (by omega) hkl hnk)]; simp
              clear hnk
              go_wp2
              go_quiet (fail)
              go_wp2
              go_ret
              exact ⟨ret_int HV.out.symm, bvia hBy (below_drewN hBx _)⟩
            · have HK2 : Aside (∀ j (hj : j < k + 1) (hj' : j < cs.length), cs[j].1 ≠ nm) := fun j hj hj' => by
                rcases Nat.lt_succ_iff_lt_or_eq.1 hj with h | rfl
                · exact HK.out j h hj'
                · rw [hnk]; exact e
              have f2 : (nk.toList == nm.toList) = false := bytes_ne e
              clear hnk
              go_wp2
              go_quiet (fail)
              go_wp2
              go_roundg (i - (k + 1))
              case measure => omega
              case rel => exact ⟨k + 1, by omega, rfl, by go_num, HK2, below_drewN hBx _⟩
          · obtain rfl : k = i := by omega
            have HN : Aside (P.meetE (P.names cs k) nm = 0) := meet_ok hname (names_not (by omega) (fun j hj => HK.out j hj (by omega)))
            clear HK
            go_wp2
            go_loopg [6] hl.length (fun m kv wx => ∃ (j : Nat), j ≤ hl.length ∧ m = hl.length - j ∧ kv = .int .i64 j ∧ Aside (P.high cs.length (hl.take j) (hl.drop j) = P.high cs.length [] hl) ∧ Below wy.heap.size wy wx)
            case atStart => exact ⟨0, Nat.zero_le _, rfl, rfl, rfl, hBx⟩
            case round =>
              clear hBx
              obtain ⟨j, hj, rfl, rfl, HJ, hBx⟩ := hrel
              have x1 := cellIn hBx z1
              have x2 := cellIn hBx y2
              have hhl := hin.le
              have hhm := hin.max
              unfold maxLen at hhm
              by_cases hjl : j < hl.length
              · obtain ⟨b2, o2, h, rfl, hb2, hd2, hc2⟩ := IntsAt.get hin (bvia hBy hBx) j hjl
                have hej : hl[j] = h := by have h1 := List.drop_eq_getElem_cons hjl; rw [hd2] at h1; simp only [List.cons.injEq] at h1; exact h1.1.symm
                have HHA : Aside (P.high cs.length [] hl = (if P.btw h 0 ((cs.length : Int) - 1) = true then (if P.hasInt (hl.take j) h = true then 6 else P.high cs.length (hl.take (j + 1)) (hl.drop (j + 1))) else 3)) := by
                  have := HJ.out.symm.trans (high_at hjl)
                  rw [hej] at this
                  exact this
                have HEJ : Aside (hl[j] = h) := hej
                clear hd2 hej HJ
                have p0 : (0 : Int) ≤ j := by omega
                have p1 : (j : Int) < hl.length := by omega
                by_cases a1 : h < 0
                · have HV : Aside (P.shipE legs souls cs bs = 3) := by
                    have hb : P.btw h 0 ((cs.length : Int) - 1) = false := by simp [P.btw]; omega
                    show _ = _
                    rw [HE.out, HA.out, HN.out, HHA.out, hb]; simp
                  have f1 : decide (h < 0) = true := decide_eq_true a1
                  go_wp2
                  go_quiet (fail)
                  go_wp2
                  go_ret
                  exact ⟨ret_int HV.out.symm, bvia hBy (below_drewN hBx _)⟩
                · by_cases a2 : (cs.length : Int) ≤ h
                  · have HV : Aside (P.shipE legs souls cs bs = 3) := by
                      have hb : P.btw h 0 ((cs.length : Int) - 1) = false := by simp [P.btw]; omega
                      show _ = _
                      rw [HE.out, HA.out, HN.out, HHA.out, hb]; simp
                    have f1 : decide (h < 0) = false := decide_eq_false a1
                    go_wp2
                    go_quiet (fail)
                    go_wp2
                    go_ret
                    exact ⟨ret_int HV.out.symm, bvia hBy (below_drewN hBx _)⟩
                  · have HB : Aside (P.btw h 0 ((cs.length : Int) - 1) = true) := by show _ = _; simp [P.btw]; omega
                    have f1 : decide (h < 0) = false := decide_eq_false a1
                    have f2 : decide ((cs.length : Int) ≤ h) = false := decide_eq_false a2
                    go_wp2
                    go_quiet (fail)
                    go_wp2
                    go_loopg [7] j (fun m kv wx => ∃ (q : Nat), q ≤ j ∧ m = j - q ∧ kv = .int .i64 q ∧ Aside (∀ r (hr : r < q) (hr' : r < hl.length), hl[r] ≠ h) ∧ Below wy.heap.size wy wx)
                    case atStart => exact ⟨0, Nat.zero_le _, rfl, rfl, fun r hr => by omega, below_drewN hBx _⟩
                    case round =>
                      clear x1 x2 hc2 hBx
                      obtain ⟨q, hq, rfl, rfl, HQ, hBx⟩ := hrel
                      by_cases hql : q < j
                      · have x1 := cellIn hBx z1
                        obtain ⟨b3, o3, hx, e3, _, hd3, hc3⟩ := IntsAt.get hin (bvia hBy hBx) q (by omega)
                        obtain ⟨b4, o4, hy, e4, _, hd4, hc4⟩ := IntsAt.get hin (bvia hBy hBx) j (by omega)
                        simp only [Option.some.injEq, Addr.mk.injEq] at e3 e4
                        obtain ⟨rfl, rfl, _⟩ := e3
                        obtain ⟨rfl, rfl, _⟩ := e4
                        have hexq : (hl[q]'(by omega)) = hx := by have h1 := List.drop_eq_getElem_cons (show q < hl.length by omega); rw [hd3] at h1; simp only [List.cons.injEq] at h1; exact h1.1.symm
                        have hexj : hy = h := by have h1 := List.drop_eq_getElem_cons hjl; rw [hd4] at h1; simp only [List.cons.injEq] at h1; rw [h1.1]; exact HEJ.out
                        subst hexj
                        clear hd3 hd4
                        have r0 : (0 : Int) ≤ q := by omega
                        have r1 : (q : Int) < hl.length := by omega
                        by_cases e : hx = hy
                        · subst e
                          have HV : Aside (P.shipE legs souls cs bs = 6) := by
                            show _ = _
                            rw [HE.out, HA.out, HN.out, HHA.out, HB.out, ints_has (by omega) hql hexq]; simp
                          clear hexq
                          go_wp2
                          go_quiet (fail)
                          go_wp2
                          go_ret
                          exact ⟨ret_int HV.out.symm, bvia hBy (below_drewN hBx _)⟩
                        · have HQ2 : Aside (∀ r (hr : r < q + 1) (hr' : r < hl.length), hl[r] ≠ hy) := fun r hr hr' => by
                            rcases Nat.lt_succ_iff_lt_or_eq.1 hr with h | rfl
                            · exact HQ.out r h hr'
                            · rw [hexq]; exact e
                          have g1 : (hx == hy) = false := beq_eq_false_iff_ne.2 e
                          clear hexq
                          go_wp2
                          go_quiet (fail)
                          go_wp2
                          go_roundg (j - (q + 1))
                          case measure => omega
                          case rel => exact ⟨q + 1, by omega, rfl, by go_num, HQ2, below_drewN hBx _⟩
                      · obtain rfl : q = j := by omega
                        have HJ2 : Aside (P.high cs.length (hl.take (q + 1)) (hl.drop (q + 1)) = P.high cs.length [] hl) := by
                          show _ = _
                          rw [HHA.out, if_pos HB.out, if_neg (by rw [ints_not (by omega) (fun r hr => HQ.out r hr (by omega))]; simp)]
                        go_wp2
                        go_roundg (hl.length - (q + 1))
                        case measure => omega
                        case rel => exact ⟨q + 1, by omega, rfl, by go_num, HJ2, hBx⟩
              · obtain rfl : j = hl.length := by omega
                have HZ : Aside (P.high cs.length [] hl = 0) := by
                  show _ = _
                  rw [← HJ.out, List.drop_of_length_le (Nat.le_refl _)]
                  rfl
                have HC2 : Aside (P.cats cs.length (P.names cs (k + 1)) (cs.drop (k + 1)) = P.cats cs.length [] cs) := by
                  show _ = _
                  rw [HA.out, if_pos HN.out, if_pos HZ.out]
                go_wp2
                go_roundg (cs.length - (k + 1))
                case measure => omega
                case rel => exact ⟨k + 1, by omega, rfl, by go_num, HC2, cellIn hBx y0, cellIn hBx y1, cellIn hBx y2, cellIn hBx y3, bvia hBy hBx⟩
    · obtain rfl : i = cs.length := by omega
      have hz : P.cats cs.length [] cs = 0 := by
        rw [← HC.out, List.drop_of_length_le (Nat.le_refl _)]
        rfl
      have hh : ∀ c ∈ cs, ∀ h ∈ c.2, 0 ≤ h ∧ h < cs.length := fun c hc h hx => by have := high_ok (cats_ok hz c hc) h hx; omega
      have HE2 : Aside (P.shipE legs souls cs bs = (if P.some (fun i => P.war (P.rbase cs) cs.length i i) cs.length = true then 4 else P.cabs cs.length [] bs)) := by show _ = _; rw [HE.out, if_pos hz, circle_ref hh]
      have HHH : Aside (∀ c ∈ cs, ∀ h ∈ c.2, 0 ≤ h ∧ h < cs.length) := hh
      clear hz hh HC HE HCG
      go_wp2_with fail
      refine (serveTable_any legs souls _ _ _ _ cs bs _ (HS.out.below hB) hn1 hn5 HHH.out).mono ?_
      rintro e w5 ⟨g, cap, B, rfl, hT, hb5⟩
      have c0' := cellIn hb5 c0
      have c1' := cellIn hb5 c1
      have c2' := cellIn hb5 c2
      have c3' := cellIn hb5 c3
      have hB5 := bvia hB hb5
      clear c0 c1 c2 c3 hB hb5 HHH HS
      generalize P.war (P.rbase cs) cs.length = R at hT HE2
      have HT : Aside (TblAt w5 (wr.heap.size + 1) cs.length g B R) := hT
      clear hT
      go_wp2
      go_loopg [9] cs.length (fun m iv wx => ∃ (i : Nat), i ≤ cs.length ∧ m = cs.length - i ∧ iv = .int .i64 i ∧ Aside (∀ j, j < i → R j j = false) ∧ wx = w5)
      case atStart => exact ⟨0, Nat.zero_le _, rfl, rfl, fun j hj => by omega, rfl⟩
      case round =>
        obtain ⟨i, hi, rfl, rfl, HR, rfl⟩ := hrel
        by_cases hil : i < cs.length
        · have o1 := HT.out.out i hil
          have o2 := HT.out.get (i := i) (j := i) hil hil
          have p0 : (0 : Int) ≤ i := by omega
          have p1 : (i : Int) < cs.length := by omega
          cases hr : R i i
          · rw [hr] at o2
            have HR2 : Aside (∀ j, j < i + 1 → R j j = false) := fun j hj => by
              rcases Nat.lt_succ_iff_lt_or_eq.1 hj with h | rfl
              · exact HR.out j h
              · exact hr
            go_wp2
            go_roundg (cs.length - (i + 1))
            case measure => omega
            case rel => exact ⟨i + 1, by omega, rfl, by go_num, HR2, rfl⟩
          · rw [hr] at o2
            have HV : Aside (P.shipE legs souls cs bs = 4) := by
              show _ = _
              rw [HE2.out, (some_iff (fun i => R i i) _).2 ⟨i, hil, hr⟩]; simp
            clear hr
            go_wp2
            go_ret
            exact ⟨ret_int HV.out.symm, hB5⟩
        · obtain rfl : i = cs.length := by omega
          have HE3 : Aside (P.shipE legs souls cs bs = P.cabs cs.length [] bs) := by
            show _ = _
            rw [HE2.out]
            cases e : P.some (fun i => R i i) cs.length with
            | false => simp
            | true =>
              obtain ⟨j, hj, h⟩ := (some_iff _ _).1 e
              rw [HR.out j hj] at h
              cases h
          clear HE2 HR HT
          go_wp2
          go_loopg [10] bs.length (fun m iv wx => ∃ (i : Nat), i ≤ bs.length ∧ m = bs.length - i ∧ iv = .int .i64 i ∧ Aside (P.cabs cs.length (P.names bs i) (bs.drop i) = P.cabs cs.length [] bs) ∧ wx.cell? ⟨w.heap.size, 2, none⟩ = some (.slice (some ⟨cb, co, none⟩) cs.length cc) ∧ wx.cell? ⟨w.heap.size, 3, none⟩ = some (.slice (some ⟨db, dof, none⟩) bs.length bc) ∧ Below w.heap.size w wx)
          case atStart => exact ⟨0, Nat.zero_le _, rfl, rfl, rfl, c2', c3', hB5⟩
          case round =>
            clear c0' c1' c2' c3' hB5
            obtain ⟨i, hi, rfl, rfl, HC, c2, c3, hB⟩ := hrel
            by_cases hil : i < bs.length
            · obtain ⟨k0, k1, k2, k3, hsz⟩ := HDG.out i hil
              have k0' := cellIn hB k0
              have k1' := cellIn hB k1
              have k2' := cellIn hB k2
              have k3' := cellIn hB k3
              have i0 : (0 : Int) ≤ i := by omega
              have i1 : (i : Int) < bs.length := by omega
              have HA : Aside _ := HC.out.symm.trans (cabs_at (n := cs.length) hil)
              clear HC k0 k1 k2 k3
              generalize hnm : bs[i].1 = nm at k0' hsz
              generalize hca : bs[i].2.1 = ca at k1'
              generalize hbe : bs[i].2.2.1 = be at k2'
              generalize bs[i].2.2.2 = lv at k3'
              rw [hnm, hca, hbe] at HA
              have HNM : Aside (bs[i].1 = nm) := hnm
              clear hnm hca hbe
              cases hname : P.name nm
              · have HV : Aside (P.shipE legs souls cs bs = 1) := by
                  show _ = _
                  rw [HE3.out, HA.out, meet_form hname]; simp
                go_wp2_with (go_at_call 125; refine (refName_any nm _ hsz).mono ?_; rintro e w1 ⟨rfl, rfl⟩; rw [hname])
                go_ret
                exact ⟨ret_int HV.out.symm, bvia hB (by go_grown)⟩
              · go_wp2_with (go_at_call 125; refine (refName_any nm _ hsz).mono ?_; rintro e w1 ⟨rfl, rfl⟩; rw [hname])
                have z0 : (wr.alloc (.cells #[.string nm, .int .i64 ca, .int .i64 be, .bool lv] 135)).cell? ⟨wr.heap.size, 0, none⟩ = some (.string nm) := by simp
                have z1 : (wr.alloc (.cells #[.string nm, .int .i64 ca, .int .i64 be, .bool lv] 135)).cell? ⟨wr.heap.size, 1, none⟩ = some (.int .i64 ca) := by simp
                have z3 : (wr.alloc (.cells #[.string nm, .int .i64 ca, .int .i64 be, .bool lv] 135)).cell? ⟨wr.heap.size, 2, none⟩ = some (.int .i64 be) := by simp
                have z2 : Below wr.heap.size wr (wr.alloc (.cells #[.string nm, .int .i64 ca, .int .i64 be, .bool lv] 135)) := by go_grown
                generalize wr.alloc (.cells #[.string nm, .int .i64 ca, .int .i64 be, .bool lv] 135) = wy at z0 z1 z2 z3 ⊢
                have y2 := cellIn z2 c2
                have y3 := cellIn z2 c3
                have hBy := bvia hB z2
                clear c2 c3 k0' k1' k2' k3' hB z2
                go_loopg [12] i (fun m kv wx => ∃ (k : Nat), k ≤ i ∧ m = i - k ∧ kv = .int .i64 k ∧ Aside (∀ j (hj : j < k) (hj' : j < bs.length), bs[j].1 ≠ nm) ∧ Below wy.heap.size wy wx)
                case atStart => exact ⟨0, Nat.zero_le _, rfl, rfl, fun j hj => by omega, Below.refl _ _⟩
                case round =>
                  obtain ⟨k, hk, rfl, rfl, HK, hBx⟩ := hrel
                  by_cases hkl : k < i
                  · have x0 := cellIn hBx z0
                    have x3 := cellIn hBx y3
                    obtain ⟨n0, _⟩ := HDG.out k (by omega)
                    have x4 := cellIn hBx (cellIn hBy n0)
                    clear n0
                    have p0 : (0 : Int) ≤ k := by omega
                    have p1 : (k : Int) < bs.length := by omega
                    generalize hnk : (bs[k]'(by omega)).1 = nk at x4
                    by_cases e : nk = nm
                    · subst e
                      have HV : Aside (P.shipE legs souls cs bs = 6) := by
                        show _ = _
                        rw [HE3.out, HA.out, meet_twice hname (names_has (by omega) hkl hnk)]; simp
                      clear hnk
                      go_wp2
                      go_quiet (fail)
                      go_wp2
                      go_ret
                      exact ⟨ret_int HV.out.symm, bvia hBy (below_drewN hBx _)⟩
                    · have HK2 : Aside (∀ j (hj : j < k + 1) (hj' : j < bs.length), bs[j].1 ≠ nm) := fun j hj hj' => by
                        rcases Nat.lt_succ_iff_lt_or_eq.1 hj with h | rfl
                        · exact HK.out j h hj'
                        · rw [hnk]; exact e
                      have f2 : (nk.toList == nm.toList) = false := bytes_ne e
                      clear hnk
                      go_wp2
                      go_quiet (fail)
                      go_wp2
                      go_roundg (i - (k + 1))
                      case measure => omega
                      case rel => exact ⟨k + 1, by omega, rfl, by go_num, HK2, below_drewN hBx _⟩
                  · obtain rfl : k = i := by omega
                    have HN : Aside (P.meetE (P.names bs k) nm = 0) := meet_ok hname (names_not (by omega) (fun j hj => HK.out j hj (by omega)))
                    clear HK
                    have x1 := cellIn hBx z1
                    have x2 := cellIn hBx y2
                    have x5 := cellIn hBx z3
                    by_cases a1 : ca < 0
                    · have HV : Aside (P.shipE legs souls cs bs = 3) := by
                        have hb : P.btw ca 0 ((cs.length : Int) - 1) = false := by simp [P.btw]; omega
                        show _ = _
                        rw [HE3.out, HA.out, HN.out, hb]; simp
                      have f1 : decide (ca < 0) = true := decide_eq_true a1
                      go_wp2
                      go_ret
                      exact ⟨ret_int HV.out.symm, bvia hBy hBx⟩
                    · have f1 : decide (ca < 0) = false := decide_eq_false a1
                      by_cases a2 : (cs.length : Int) ≤ ca
                      · have HV : Aside (P.shipE legs souls cs bs = 3) := by
                          have hb : P.btw ca 0 ((cs.length : Int) - 1) = false := by simp [P.btw]; omega
                          show _ = _
                          rw [HE3.out, HA.out, HN.out, hb]; simp
                        have f2 : decide ((cs.length : Int) ≤ ca) = true := decide_eq_true a2
                        go_wp2
                        go_ret
                        exact ⟨ret_int HV.out.symm, bvia hBy hBx⟩
                      · have f2 : decide ((cs.length : Int) ≤ ca) = false := decide_eq_false a2
                        have hb : P.btw ca 0 ((cs.length : Int) - 1) = true := by simp [P.btw]; omega
                        have HB : Aside (P.btw ca 0 ((cs.length : Int) - 1) = true) := hb
                        clear hb
                        cases hbe : P.btw be 1 4
                        · have HV : Aside (P.shipE legs souls cs bs = 3) := by
                            show _ = _
                            rw [HE3.out, HA.out, HN.out, HB.out, hbe]; simp
                          go_wp2_with (go_at_call 74; refine (between2_any _ _ _ _).mono ?_; rintro e w6 ⟨rfl, rfl⟩; rw [hbe])
                          go_ret
                          exact ⟨ret_int HV.out.symm, bvia hBy hBx⟩
                        · have HC2 : Aside (P.cabs cs.length (P.names bs (k + 1)) (bs.drop (k + 1)) = P.cabs cs.length [] bs) := by
                            show _ = _
                            rw [HA.out, if_pos HN.out, HB.out, hbe]; simp
                          go_wp2_with (go_at_call 74; refine (between2_any _ _ _ _).mono ?_; rintro e w6 ⟨rfl, rfl⟩; rw [hbe])
                          go_roundg (bs.length - (k + 1))
                          case measure => omega
                          case rel => exact ⟨k + 1, by omega, rfl, by go_num, HC2, x2, cellIn hBx y3, bvia hBy hBx⟩
            · obtain rfl : i = bs.length := by omega
              have HV : Aside (P.shipE legs souls cs bs = 0) := by
                show _ = _
                rw [HE3.out, ← HC.out, List.drop_of_length_le (Nat.le_refl _)]
                rfl
              go_wp2
              go_ret
              exact ⟨ret_int HV.out.symm, hB⟩

end Go.Proofs.YtlamhfbdeinkkaeGreat.Sh
/- The walk of the reference's OrderOf. -/
namespace Go.Proofs.YtlamhfbdeinkkaeGreat.Sh
open Go.RowKit
set_option linter.unusedSimpArgs false
set_option linter.unusedVariables false
set_option linter.unnecessarySimpa false

theorem TblAt.blocks {w w' : World} {base n g : Nat} {B : Nat → Nat} {T : Tab} (h : TblAt w base n g B T) (hg : w'.heap[g]? = w.heap[g]?) (hb : ∀ i, i < n → w'.heap[B i]? = w.heap[B i]?) : TblAt w' base n g B T :=
  ⟨h.lo, h.rlo, h.inj, fun i hi => (World.cell?_of_block (a := ⟨g, i, none⟩) hg).trans (h.out i hi), fun i hi => (h.row i hi).of_block (hb i hi)⟩

theorem hasInt_snoc (l : List Int) (x y : Int) : P.hasInt (l ++ [x]) y = (P.hasInt l y || decide (x = y)) := by simp [P.hasInt, List.any_append]

end Go.Proofs.YtlamhfbdeinkkaeGreat.Sh
/- The walks of the reference's CheckShip (whatever its sizes) and DoesServe, and of the law ShipTells. -/
namespace Go.Proofs.YtlamhfbdeinkkaeGreat.Sh
open Go.RowKit
set_option linter.unusedSimpArgs false
set_option linter.unusedVariables false
set_option linter.unnecessarySimpa false

set_option maxRecDepth 100000 in
set_option maxHeartbeats 4000000 in
theorem refCheck_any (legs souls : Int) (cao bao : Option Addr) (cc bc : Nat) (cs : List Cat) (bs : List Cab) (w : World) (hs : ShipAt w cao bao cc bc cs bs) :
    Calls Tryz.prog 72 #[.agg #[.int .i64 legs, .int .i64 souls, .slice cao cs.length cc, .slice bao bs.length bc]] w fun e w' => e = .returned (.int .i64 (P.shipE legs souls cs bs)) ∧ Below w.heap.size w w' := by
  by_cases h0 : P.sizeE legs souls cs.length bs.length = 0
  · exact refCheck_in legs souls cao bao cc bc cs bs w hs h0
  · have hE : P.shipE legs souls cs bs = P.sizeE legs souls cs.length bs.length := by rw [P.shipE, if_neg h0]
    rw [hE]
    generalize cs.length = nc at h0
    generalize bs.length = nb at h0
    have H0 : Aside (¬ P.sizeE legs souls nc nb = 0) := h0
    clear hE hs h0
    cases h1 : P.btw legs 1 7
    · have HE : Aside (P.sizeE legs souls nc nb = 3) := by show _ = _; rw [P.sizeE, h1]; rfl
      go_enter Tryz.func72, Tryz.ntmps72
      go_wp2_with (go_at_call 74; refine (between2_any _ _ _ _).mono ?_; rintro e w2 ⟨rfl, rfl⟩; rw [h1])
      go_ret
      exact ⟨ret_int HE.out.symm, by go_grown⟩
    · cases h2 : P.btw souls 1 60
      · have HE : Aside (P.sizeE legs souls nc nb = 3) := by show _ = _; rw [P.sizeE, h1, h2]; rfl
        go_enter Tryz.func72, Tryz.ntmps72
        go_wp2_with (go_at_call 74; refine (between2_any _ _ _ _).mono ?_; rintro e w2 ⟨rfl, rfl⟩; first | rw [h1] | rw [h2])
        go_ret
        exact ⟨ret_int HE.out.symm, by go_grown⟩
      · have HE : Aside (P.sizeE legs souls nc nb = (if (decide (5 < nc) || decide (12 < nb)) = true then 2 else if (decide (nc = 0) || decide (nb = 0)) = true then 5 else 0)) := by show _ = _; rw [P.sizeE, h1, h2]; rfl
        have fin : ∀ {x : Int}, (if (decide (5 < nc) || decide (12 < nb)) = true then 2 else if (decide (nc = 0) || decide (nb = 0)) = true then 5 else 0) = x → Aside (P.sizeE legs souls nc nb = x) := fun h => HE.out.trans h
        clear HE
        by_cases c1 : 5 < nc
        · have HF := fin (x := 2) (by simp [c1])
          clear fin
          have c1' : decide ((5 : Int) < (nc : Int)) = true := by simp; omega
          go_enter Tryz.func72, Tryz.ntmps72
          go_wp2_with (go_at_call 74; refine (between2_any _ _ _ _).mono ?_; rintro e w2 ⟨rfl, rfl⟩; first | rw [h1] | rw [h2])
          go_ret
          exact ⟨ret_int HF.out.symm, by go_grown⟩
        · have c1' : decide ((5 : Int) < (nc : Int)) = false := decide_eq_false (by omega)
          by_cases c2 : 12 < nb
          · have HF := fin (x := 2) (by simp [c2])
            clear fin
            have c2' : decide ((12 : Int) < (nb : Int)) = true := by simp; omega
            go_enter Tryz.func72, Tryz.ntmps72
            go_wp2_with (go_at_call 74; refine (between2_any _ _ _ _).mono ?_; rintro e w2 ⟨rfl, rfl⟩; first | rw [h1] | rw [h2])
            go_ret
            exact ⟨ret_int HF.out.symm, by go_grown⟩
          · have c2' : decide ((12 : Int) < (nb : Int)) = false := decide_eq_false (by omega)
            by_cases c3 : nc = 0
            · have HF := fin (x := 5) (by simp [c1, c2, c3])
              clear fin
              have c3' : ((nc : Int) == 0) = true := beq_iff_eq.2 (by omega)
              go_enter Tryz.func72, Tryz.ntmps72
              go_wp2_with (go_at_call 74; refine (between2_any _ _ _ _).mono ?_; rintro e w2 ⟨rfl, rfl⟩; first | rw [h1] | rw [h2])
              go_ret
              exact ⟨ret_int HF.out.symm, by go_grown⟩
            · have c3' : ((nc : Int) == 0) = false := beq_eq_false_iff_ne.2 (by omega)
              by_cases c4 : nb = 0
              · have HF := fin (x := 5) (by simp [c1, c2, c4])
                clear fin
                have c4' : ((nb : Int) == 0) = true := beq_iff_eq.2 (by omega)
                go_enter Tryz.func72, Tryz.ntmps72
                go_wp2_with (go_at_call 74; refine (between2_any _ _ _ _).mono ?_; rintro e w2 ⟨rfl, rfl⟩; first | rw [h1] | rw [h2])
                go_ret
                exact ⟨ret_int HF.out.symm, by go_grown⟩
              · exact absurd (fin (x := 0) (by simp [c1, c2, c3, c4])).out H0.out

set_option maxHeartbeats 1000000 in
theorem doesServe_any (legs souls : Int) (cao bao : Option Addr) (cc bc : Nat) (cs : List Cat) (bs : List Cab) (a b : Nat) (w : World) (hs : ShipAt w cao bao cc bc cs bs) (h0 : P.shipE legs souls cs bs = 0) (ha : a < cs.length) (hb : b < cs.length) :
    Calls Tryz.prog 144 #[.agg #[.int .i64 legs, .int .i64 souls, .slice cao cs.length cc, .slice bao bs.length bc], .int .i64 a, .int .i64 b] w fun e w' => e = .returned (.bool (P.war (P.base cs) cs.length a b)) ∧ Below w.heap.size w w' := by
  obtain ⟨hn1, hn5, hh, _⟩ := ship_facts h0
  have HH : Aside (∀ c ∈ cs, ∀ h ∈ c.2, 0 ≤ h ∧ h < cs.length) := hh
  have HV : Aside (P.war (P.base cs) cs.length a b = ((decide (a = b) && decide (b < cs.length)) || P.war (P.rbase cs) cs.length a b)) := war_split cs _ a b
  clear hh h0
  by_cases e : a = b
  · subst e
    have HW : Aside (P.war (P.base cs) cs.length a a = true) := by show _ = _; rw [HV.out]; simp [ha]
    go_enter Tryz.func144, Tryz.ntmps144
    go_wp2
    go_ret
    exact ⟨by first | exact ret_bool HW.out.symm | exact ret_bool rfl, by go_grown⟩
  · have HW : Aside (P.war (P.base cs) cs.length a b = P.war (P.rbase cs) cs.length a b) := by show _ = _; rw [HV.out]; simp [e]
    have e' : ((a : Int) == (b : Int)) = false := beq_eq_false_iff_ne.2 (by omega)
    have p0 : (0 : Int) ≤ a := by omega
    have p1 : (a : Int) < cs.length := by omega
    have p2 : (0 : Int) ≤ b := by omega
    have p3 : (b : Int) < cs.length := by omega
    go_enter Tryz.func144, Tryz.ntmps144
    go_wp2_with (go_at_call 126; refine (serveTable_any legs souls _ _ _ _ cs bs _ (hs.below (by go_grown)) hn1 hn5 HH.out).mono ?_; rintro e w1 ⟨g, cap, B, rfl, hT, hb1⟩; have o1 := hT.out a ha; have o2 := hT.get (i := a) (j := b) ha hb)
    go_ret
    exact ⟨ret_bool HW.out.symm, bvia (by go_grown) hb1⟩

end Go.Proofs.YtlamhfbdeinkkaeGreat.Sh
