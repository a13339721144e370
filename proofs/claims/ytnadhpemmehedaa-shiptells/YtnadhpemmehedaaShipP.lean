/- The walk of the reference's ServeTable. -/
import Derived.Test.YtnadhpemmehedaaShipO
namespace Go.Proofs.Ytnadhpemmehedaa
open Go.RowKit
set_option linter.unusedSimpArgs false
set_option linter.unusedVariables false
set_option linter.unnecessarySimpa false

set_option maxRecDepth 100000 in
set_option maxHeartbeats 4000000 in
theorem serveTable_any (legs souls : Int) (cao bao : Option Addr) (cc bc : Nat) (cs : List Cat) (bs : List Cab) (w : World) (hs : ShipAt w cao bao cc bc cs bs) (hn1 : 1 ≤ cs.length) (hn : cs.length ≤ 5) (hh : ∀ c ∈ cs, ∀ h ∈ c.2, 0 ≤ h ∧ h < cs.length) :
    Calls Try.prog 50 #[.agg #[.int .i64 legs, .int .i64 souls, .slice cao cs.length cc, .slice bao bs.length bc]] w fun e w' => ∃ g cap B, e = .returned (.slice (some ⟨g, 0, none⟩) cs.length cap) ∧ TblAt w' (w.heap.size + 1) cs.length g B (P.war (P.rbase cs) cs.length) ∧ Below w.heap.size w w' := by
  have HH : Aside (∀ c ∈ cs, ∀ h ∈ c.2, 0 ≤ h ∧ h < cs.length) := hh
  have HS : Aside (ShipAt w cao bao cc bc cs bs) := hs
  clear hs hh
  obtain ⟨i0, hi, hi0, hi1, hi2⟩ := info_parts Try.infoRow
  obtain ⟨j0, hj, hj0, hj1, hj2⟩ := info_parts Try.infoBool
  have HI : Aside (Try.prog.info? 77 = some i0 ∧ i0.zero = some (.slice none 0 0) ∧ i0.size = 1 ∧ i0.bytes = 24) := ⟨hi, hi0, hi1, hi2⟩
  have HJ : Aside (Try.prog.info? 4 = some j0 ∧ j0.zero = some (.bool false) ∧ j0.size = 1 ∧ j0.bytes = 1) := ⟨hj, hj0, hj1, hj2⟩
  clear hi hi0 hi1 hi2 hj hj0 hj1 hj2
  go_enter Try.func50, Try.ntmps50
  go_wp2
  go_loopg [4, 5] cs.length (fun g v i wr => ∃ (k : Nat) (B : Nat → Nat), k ≤ cs.length ∧ g = cs.length - k ∧ i = .int .i64 k ∧ TblUp wr (w.heap.size + 1) cs.length k v B ∧ wr.cell? ⟨w.heap.size, 2, none⟩ = some (.slice cao cs.length cc) ∧ Below (w.heap.size + 1) (w.alloc (.cells #[.int .i64 legs, .int .i64 souls, .slice cao cs.length cc, .slice bao bs.length bc] 45)) wr)
  case atStart => exact ⟨0, fun _ => 0, Nat.zero_le _, rfl, rfl, ⟨World.ownsRow_nil _ _ _ _, fun i hi => by omega, fun i j hi => by omega, fun i hi => by omega⟩, by simp, Below.refl _ _⟩
  case round =>
    obtain ⟨k, B, hk, rfl, rfl, hU, hbx, hB⟩ := hrel
    by_cases hkl : k < cs.length
    · have hBs : w.heap.size + 1 ≤ wr.heap.size := by have := hB.size; simpa using this
      have HU : Aside (TblUp wr (w.heap.size + 1) cs.length k u4 B) := hU
      clear hU
      go_wp2_with (first
        | (at_make; refine wpList_make_full _ (by rfl) _ _ 77 (by rfl) (w.heap.size + 1) 4 j0 _ 1 Try.underlying77 HJ.out.1 HJ.out.2.1 HJ.out.2.2.1 _ _ _ _ cs.length (by rfl) (by rfl) rfl rfl (by rw [HJ.out.2.2.2]; omega) (by unfold maxLen; omega) hBs ?_; intro w1 hrow1 hgr1; have hlt1 := (row_of_made hrow1).lt; have h1s := hgr1.size)
        | (at_builtin; refine wpList_append_lies _ (by rfl) _ _ 75 (by rfl) (w.heap.size + 1) 77 i0 _ 1 24 Try.underlying75 HI.out.1 HI.out.2.1 HI.out.2.2.1 HI.out.2.2.2 rfl (by decide) u4 k ((List.range k).map fun i => .slice (some ⟨B i, 0, none⟩) cs.length cs.length) (by rfl) ((HU.out.own.kept hgr1 (Classical.em _)).alloc _) ⟨w1.heap.size, 0, none⟩ 1 1 [.slice (some ⟨wr.heap.size, 0, none⟩) cs.length cs.length] (by rfl) (by rfl) (World.news_of_block (cs := #[.slice (some ⟨wr.heap.size, 0, none⟩) cs.length cs.length]) (heap_alloc_new w1 _)) (by simp; exact rfl) (by omega) (by unfold maxLen; omega) (by omega) (by simp; omega) (w1.heap.size + 1) (by simp) ?_; intro g2 cap2 w2 hown2 hgr2 hat2 hlt2))
      go_roundg (cs.length - (k + 1))
      case measure => omega
      case rel =>
        have hw1 : Below wr.heap.size wr w1 := below_none hgr1
        have hB1 : Below (w.heap.size + 1) (w.alloc (.cells #[.int .i64 legs, .int .i64 souls, .slice cao cs.length cc, .slice bao bs.length bc] 45)) w1 := hB.trans ⟨hw1.os, hw1.tape, hw1.output, hw1.size, fun b hb => hw1.block b (by omega)⟩
        have hB2 : Below (w.heap.size + 1) (w.alloc (.cells #[.int .i64 legs, .int .i64 souls, .slice cao cs.length cc, .slice bao bs.length bc] 45)) w2 := (hB1.alloc (by omega) _).grown hgr2 (by simp; omega) (fun b hb => (HU.out.own.lt b hb).1)
        refine ⟨k + 1, _, by omega, rfl, by go_num, TblUp.more HU.out hBs hgr1 (row_of_made hrow1) hown2 hgr2 hat2, ?_, hB2⟩
        rw [hB2.cell (p := ⟨w.heap.size, 2, none⟩) (by show w.heap.size < w.heap.size + 1; omega)]
        simp
    · obtain rfl : k = cs.length := by omega
      obtain ⟨g, cap, rfl, hT⟩ := hU.done (by omega)
      have hB' : Below w.heap.size w wr := (show Below w.heap.size w _ from by go_grown).trans ⟨hB.os, hB.tape, hB.output, hB.size, fun b hb => hB.block b (by omega)⟩
      clear hU hB
      go_wp2
      go_loopg [6] cs.length (fun g' i wx => ∃ (k : Nat), k ≤ cs.length ∧ g' = cs.length - k ∧ i = .int .i64 k ∧ TblAt wx (w.heap.size + 1) cs.length g B (P.rdone cs k) ∧ wx.cell? ⟨w.heap.size, 2, none⟩ = some (.slice cao cs.length cc) ∧ Below w.heap.size w wx)
      case atStart => exact ⟨0, Nat.zero_le _, rfl, rfl, hT.congr (fun x y _ _ => by simp [P.rdone]), hbx, hB'⟩
      case round =>
        clear hT hbx hB'
        obtain ⟨k, hk, rfl, rfl, hT, hbx, hB⟩ := hrel
        by_cases hlt : k < cs.length
        · obtain ⟨b, off, nm, hs, hao, hcap, rfl, hbw, hd, hcw0, hcw1, hin, hnm⟩ := CatsAt.get HS.out.cats (Below.refl _ _) k hlt
          have HG : Aside (cs.getD k (ByteArray.empty, []) = (nm, hs)) := by
            have h1 := List.drop_eq_getElem_cons hlt
            rw [hd] at h1
            simp only [List.cons.injEq] at h1
            show _ = _
            rw [List.getD_eq_getElem?_getD, List.getElem?_eq_getElem hlt, ← h1.1]
            rfl
          have HHs : Aside (∀ h ∈ hs, 0 ≤ h ∧ h < cs.length) := by
            have hm : (nm, hs) ∈ cs := by
              have := List.mem_cons_self (a := (nm, hs)) (l := cs.drop (k + 1))
              rw [← hd] at this
              exact List.mem_of_mem_drop this
            exact HH.out _ hm
          clear hd
          go_wp2
          go_loopg [7] hs.length (fun g' j wx => ∃ (i : Nat), i ≤ hs.length ∧ g' = hs.length - i ∧ j = .int .i64 i ∧ TblAt wx (w.heap.size + 1) cs.length g B (P.rpart cs k (hs.take i)) ∧ wx.cell? ⟨w.heap.size, 2, none⟩ = some (.slice (some ⟨b, off, none⟩) cs.length cc) ∧ Below w.heap.size w wx)
          case atStart => exact ⟨0, Nat.zero_le _, rfl, rfl, hT.congr (fun x y _ _ => by simp [P.rpart]), hbx, hB⟩
          case round =>
            clear hT hbx hB
            obtain ⟨i, hi, rfl, rfl, hT, hbx, hB⟩ := hrel
            have hc1 := cellIn hB hcw1
            have hhl := hin.le
            have hhm := hin.max
            unfold maxLen at hhm
            by_cases hil : i < hs.length
            · obtain ⟨b2, off2, h, rfl, hb2, hd2, hc2⟩ := IntsAt.get hin hB i hil
              have hmem : h ∈ hs := by
                have := List.mem_cons_self (a := h) (l := hs.drop (i + 1))
                rw [← hd2] at this
                exact List.mem_of_mem_drop this
              obtain ⟨hh0, hh1⟩ := HHs.out h hmem
              obtain ⟨H, rfl⟩ : ∃ H : Nat, h = H := ⟨h.toNat, by omega⟩
              have HD : Aside (hs.take (i + 1) = hs.take i ++ [(H : Int)]) := by
                have h1 := List.drop_eq_getElem_cons hil
                rw [hd2] at h1
                simp only [List.cons.injEq] at h1
                show _ = _
                rw [h1.1, List.take_succ_eq_append_getElem hil]
              clear hd2
              have hfr := hT.frozen (i := H) (by omega) k
              have hce := hT.get (i := H) (j := k) (by omega) (by omega)
              have hou := hT.out H (by omega)
              have hlo := hT.rlo H (by omega)
              go_wp2
              go_roundg (hs.length - (i + 1))
              case measure => omega
              case rel =>
                refine ⟨i + 1, by omega, rfl, by go_num, ?_, ?_, hB.setCell (by show w.heap.size ≤ B H; omega) _⟩
                · refine TblAt.put hT (by omega) (by omega) ?_ ?_
                  · unfold P.rpart; rw [HD.out]; simp
                  · intro x y hx hy hne
                    unfold P.rpart
                    rw [HD.out]
                    by_cases e : y = k
                    · subst e
                      have : ¬ (H : Int) = (x : Int) := by intro e2; exact hne ⟨by omega, rfl⟩
                      simp [this]
                    · simp [e]
                · rw [World.cell?_of_block (Below.heap_setCell _ _ _ _ (by show w.heap.size ≠ B H; omega))]
                  exact hbx
            · obtain rfl : i = hs.length := by omega
              rw [List.take_of_length_le (Nat.le_refl _)] at hT
              go_wp2
              go_roundg (cs.length - (k + 1))
              case measure => omega
              case rel =>
                refine ⟨k + 1, by omega, rfl, by go_num, TblAt.congr hT ?_, hbx, hB⟩
                intro x y hx hy
                unfold P.rpart P.rdone P.edge
                by_cases e : y = k
                · subst e
                  rw [HG.out]
                  simp
                · have e2 : decide (y < k) = decide (y < k + 1) := by rw [decide_eq_decide]; omega
                  simp [e, e2]
        · obtain rfl : k = cs.length := by omega
          have hT0 : TblAt wr (w.heap.size + 1) cs.length g B (P.war (P.rbase cs) 0) := hT
          clear hT hbx
          go_wp2
          go_loopg [8] cs.length (fun g' i wx => ∃ (m : Nat), m ≤ cs.length ∧ g' = cs.length - m ∧ i = .int .i64 m ∧ TblAt wx (w.heap.size + 1) cs.length g B (P.war (P.rbase cs) m) ∧ Below w.heap.size w wx)
          case atStart => exact ⟨0, Nat.zero_le _, rfl, rfl, hT0, hB⟩
          case round =>
            clear hT0 hB
            obtain ⟨m, hm, rfl, rfl, hT, hB⟩ := hrel
            by_cases hml : m < cs.length
            · generalize hW : P.war (P.rbase cs) m = T at hT
              have HW : Aside (P.war (P.rbase cs) (m + 1) = P.step T m) := by show _ = _; rw [P.war, hW]
              clear hW
              go_wp2
              go_loopg [9] cs.length (fun g' i wx => ∃ (a : Nat), a ≤ cs.length ∧ g' = cs.length - a ∧ i = .int .i64 a ∧ TblAt wx (w.heap.size + 1) cs.length g B (P.mix T m a 0) ∧ Below w.heap.size w wx)
              case atStart => exact ⟨0, Nat.zero_le _, rfl, rfl, hT.congr (fun x y _ _ => by simp [P.mix]), hB⟩
              case round =>
                clear hT hB
                obtain ⟨a, ha, rfl, rfl, hT, hB⟩ := hrel
                by_cases hal : a < cs.length
                · go_wp2
                  go_loopg [10] cs.length (fun g' i wx => ∃ (b : Nat), b ≤ cs.length ∧ g' = cs.length - b ∧ i = .int .i64 b ∧ TblAt wx (w.heap.size + 1) cs.length g B (P.mix T m a b) ∧ Below w.heap.size w wx)
                  case atStart => exact ⟨0, Nat.zero_le _, rfl, rfl, hT, hB⟩
                  case round =>
                    clear hT hB
                    obtain ⟨b, hb, rfl, rfl, hT, hB⟩ := hrel
                    by_cases hbl : b < cs.length
                    · have g1 := hT.get (i := a) (j := b) (by omega) (by omega)
                      have g2 := hT.get (i := a) (j := m) (by omega) (by omega)
                      have g3 := hT.get (i := m) (j := b) (by omega) (by omega)
                      have o1 := hT.out a (by omega)
                      have o2 := hT.out m (by omega)
                      have hfr := hT.frozen (i := a) (by omega) b
                      have hlo := hT.rlo a (by omega)
                      rw [mix_here] at g1
                      rw [mix_am] at g2
                      rw [mix_mb] at g3
                      have i1 : (a : Int) < cs.length := by omega
                      have i2 : (b : Int) < cs.length := by omega
                      have i3 : (m : Int) < cs.length := by omega
                      have i4 : (0 : Int) ≤ a := by omega
                      have i5 : (0 : Int) ≤ b := by omega
                      have i6 : (0 : Int) ≤ m := by omega
                      have HFIN : Aside ((∀ v, P.step T m a b = v → TblAt (wr.setCell ⟨B a, b, none⟩ (.bool v)) (w.heap.size + 1) cs.length g B (P.mix T m a (b + 1))) ∧ ∀ v, Below w.heap.size w (wr.setCell ⟨B a, b, none⟩ (.bool v))) :=
                        ⟨fun v hv => TblAt.put hT (by omega) (by omega) (by unfold P.mix; rw [if_pos (by omega)]; exact hv) (fun x y hx hy hne => by
                          unfold P.mix
                          by_cases e : x < a ∨ (x = a ∧ y < b)
                          · rw [if_pos e, if_pos (by omega)]
                          · rw [if_neg e, if_neg (by omega)]), fun v => hB.setCell (by show w.heap.size ≤ B a; omega) _⟩
                      have HT : Aside (TblAt wr (w.heap.size + 1) cs.length g B (P.mix T m a b)) := hT
                      clear hT
                      cases t1 : T a b
                      · rw [t1] at g1
                        cases t2 : T a m
                        · rw [t2] at g2
                          have HV : Aside (P.step T m a b = false) := by show _ = _; simp [P.step, t1, t2]
                          clear t1 t2
                          go_wp2
                          go_big_region
                          go_wp2
                          go_roundg (cs.length - (b + 1))
                          case measure => omega
                          case rel => exact ⟨b + 1, by omega, rfl, by go_num, (HFIN.out.1 _ HV.out).below (Below.refl _ _).drew, (HFIN.out.2 _).drew⟩
                        · rw [t2] at g2
                          cases t3 : T m b
                          · rw [t3] at g3
                            have HV : Aside (P.step T m a b = false) := by show _ = _; simp [P.step, t1, t2, t3]
                            clear t1 t2 t3
                            go_wp2
                            go_big_region
                            go_wp2
                            go_roundg (cs.length - (b + 1))
                            case measure => omega
                            case rel => exact ⟨b + 1, by omega, rfl, by go_num, (HFIN.out.1 _ HV.out).below (Below.refl _ _).drew, (HFIN.out.2 _).drew⟩
                          · rw [t3] at g3
                            have HV : Aside (P.step T m a b = true) := by show _ = _; simp [P.step, t1, t2, t3]
                            clear t1 t2 t3
                            go_wp2
                            go_big_region
                            go_wp2
                            go_roundg (cs.length - (b + 1))
                            case measure => omega
                            case rel => exact ⟨b + 1, by omega, rfl, by go_num, (HFIN.out.1 _ HV.out).below (Below.refl _ _).drew, (HFIN.out.2 _).drew⟩
                      · rw [t1] at g1
                        have HV : Aside (P.step T m a b = true) := by show _ = _; simp [P.step, t1]
                        clear t1
                        go_wp2
                        go_big_region
                        go_wp2
                        go_roundg (cs.length - (b + 1))
                        case measure => omega
                        case rel => exact ⟨b + 1, by omega, rfl, by go_num, (HFIN.out.1 _ HV.out).below (Below.refl _ _).drew, (HFIN.out.2 _).drew⟩
                    · obtain rfl : b = cs.length := by omega
                      go_wp2
                      go_roundg (cs.length - (a + 1))
                      case measure => omega
                      case rel =>
                        refine ⟨a + 1, by omega, rfl, by go_num, hT.congr fun x y hx hy => ?_, hB⟩
                        unfold P.mix
                        by_cases e : x < a ∨ (x = a ∧ y < cs.length)
                        · rw [if_pos e, if_pos (by omega)]
                        · rw [if_neg e, if_neg (by omega)]
                · obtain rfl : a = cs.length := by omega
                  go_wp2
                  go_roundg (cs.length - (m + 1))
                  case measure => omega
                  case rel =>
                    refine ⟨m + 1, by omega, rfl, by go_num, ?_, hB⟩
                    rw [HW.out]
                    refine hT.congr fun x y hx hy => ?_
                    unfold P.mix
                    rw [if_pos (by omega)]
            · obtain rfl : m = cs.length := by omega
              go_wp2
              go_ret
              exact ⟨g, cap, B, rfl, hT, hB⟩

end Go.Proofs.Ytnadhpemmehedaa
