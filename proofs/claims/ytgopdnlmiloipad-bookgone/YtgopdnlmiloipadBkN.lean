/- The reference: SoulsOf. -/
import Derived.Test.YtgopdnlmiloipadBkI
import Derived.Test.YtgopdnlmiloipadMaA
import Derived.BigRegion
namespace Go.Proofs.Ytgopdnlmiloipad.Bk
open Go.RowKit
set_option linter.unusedSimpArgs false
set_option linter.unusedVariables false

theorem soul_take {k : Int} {l : List Bkg} {x : Bkg} {i : Nat} (hi : i < l.length) (hd : l.drop i = x :: l.drop (i + 1)) : P.soul k (l.take (i + 1)) = P.soul k (l.take i) + P.onLeg k x := by
  have h1 := List.drop_eq_getElem_cons hi
  rw [hd] at h1
  simp only [List.cons.injEq] at h1
  rw [List.take_succ_eq_append_getElem hi, ← h1.1, soul_snoc]
theorem mem_drop1 {α : Type} {l : List α} {x : α} {k : Nat} (hd : l.drop k = x :: l.drop (k + 1)) : x ∈ l := by
  have : x ∈ l.drop k := by rw [hd]; simp
  exact List.mem_of_mem_drop this
theorem souls_get {n : Nat} {l : List Bkg} {i : Nat} (hi : i < n) : (P.soulsL n l).getD i 0 = P.soul (i : Nat) l := by simp [P.soulsL, List.getD, hi]
theorem souls_len (n : Nat) (l : List Bkg) : (P.soulsL n l).length = n := by simp [P.soulsL]

theorem between_is (n a b : Int) (w : World) (v : Bool) (h : P.btw n a b = v) :
    Calls Try.prog 26 #[.int .i64 n, .int .i64 a, .int .i64 b] w fun e w' => e = .returned (.bool v) ∧ Below w.heap.size w w' := by
  subst h
  exact (between_any n a b w).mono fun e w' h => ⟨h.1, by rw [← h.2]; exact Below.refl _ _⟩

set_option maxRecDepth 4000 in
set_option maxHeartbeats 2000000 in
theorem soulsOf_any (s : Vsl) (n : Nat) (ao : Option Addr) (cap : Nat) (l : List Bkg) (w : World) (hl : BksAt w ao cap l) (hL : l.length ≤ 1353245080300) (hn : n ≤ 7) (hs : s.legs = n) (hbk : ∀ b ∈ l, P.bkE s b = 0) :
    Calls Try.prog 11 #[.int .i64 n, .slice ao l.length cap] w fun e w' => ∃ v', e = .returned v' ∧ Ma.OwnI w' w.heap.size v' (P.soulsL n l) ∧ Below w.heap.size w w' := by
  have hle := hl.le
  have hmx := hl.max
  unfold maxLen at hmx
  have HBK : Aside (∀ b ∈ l, P.bkE s b = 0) := hbk
  have HSL : Aside (s.legs = n) := hs
  clear hbk hs
  obtain ⟨i0, hi, hi0, hi1, hi2⟩ := info_parts Ma.Try.infoInt
  have HI : Aside (Try.prog.info? 3 = some i0 ∧ i0.zero = some (.int .i64 0) ∧ i0.size = 1 ∧ i0.bytes = 8) := ⟨hi, hi0, hi1, hi2⟩
  clear hi hi0 hi1 hi2
  go_enter Try.func11, Try.ntmps11
  go_wp2_with (at_make; refine wpList_make_full _ (by rfl) _ _ 36 (by rfl) w.heap.size 3 i0 _ 1 Try.underlying36 HI.out.1 HI.out.2.1 HI.out.2.2.1 _ _ _ _ n (by rfl) (by rfl) rfl rfl (by rw [HI.out.2.2.2]; omega) (by unfold maxLen; omega) (by simp) ?_; intro w1 hrow1 hgr1; have hb1 := Ma.below_grown hgr1; have HR1 : Aside (w1.rowIs w.heap.size 3 n (fun _ => .int .i64 0)) := (by show World.rowIs _ _ _ _ _; have := Ma.row_of_made hrow1; simpa using this); clear hrow1 hgr1)
  go_loopg [6] l.length (fun g i wr => ∃ (k : Nat), k ≤ l.length ∧ g = l.length - k ∧ i = .int .i64 k ∧ wr.rowIs w.heap.size 3 n (fun j => .int .i64 (P.soul (j : Nat) (l.take k))) ∧ Below w.heap.size w wr)
  case atStart => exact ⟨0, Nat.zero_le _, rfl, rfl, HR1.out, hb1⟩
  case round =>
    clear HR1 hb1
    obtain ⟨k, hk, rfl, rfl, hR, hB⟩ := hrel
    have HR : Aside (wr.rowIs w.heap.size 3 n (fun j => .int .i64 (P.soul (j : Nat) (l.take k)))) := hR
    clear hR
    by_cases hlt : k < l.length
    · obtain ⟨b, off, x, fo, fc, rfl, hbw, hd, hx, hfx⟩ := BksAt.get hl (Below.refl _ w) k hlt
      have HT : Aside (∀ j : Int, P.soul j (l.take (k + 1)) = P.soul j (l.take k) + P.onLeg j x) := fun j => soul_take hlt hd
      obtain ⟨hchk, hg1, hg4, _⟩ := bk_ok (HBK.out x (mem_drop1 hd))
      have hz := Sp.chk_zero hchk
      have HBD : Aside (∀ j : Int, 0 ≤ P.soul j (l.take k) ∧ P.soul j (l.take k) ≤ 4 * (l.length : Int)) := fun j => by
        have h1 := soul_bd (k := j) (l := l.take k) (s := s) (fun b hb => HBK.out b (List.mem_of_mem_take hb))
        have h2 : (l.take k).length ≤ l.length := List.length_take_le' k l
        omega
      obtain ⟨hz0, hz1, hz2, hz3, _, _⟩ := hz
      rw [HSL.out] at hz2
      clear hd hfx hchk hz3
      have HX : Aside (BkAt w b (off + k * 11) x fo fc) := hx
      have hkl : (k : Int) < l.length := by omega
      have HW : Aside (IntKind.i64.wrap (x.to - 1) = x.to - 1) := by show _ = _; rw [IntKind.wrap_i64]; omega
      clear hx
      go_wp2
      go_loopg [7] n (fun g i wx => ∃ (m : Nat), m ≤ n ∧ g = n - m ∧ i = .int .i64 m ∧ wx.rowIs w.heap.size 3 n (fun j => .int .i64 (P.soul (j : Nat) (l.take k) + if j < m then P.onLeg (j : Nat) x else 0)) ∧ Below w.heap.size w wx)
      case atStart => exact ⟨0, Nat.zero_le _, rfl, rfl, HR.out.congr (fun j _ => by simp), hB⟩
      case round =>
        clear HR
        obtain ⟨m, hm, rfl, rfl, hR, hBx⟩ := hrel
        by_cases hml : m < n
        · have hRl := hR.lt
          have HR : Aside (wr.rowIs w.heap.size 3 n (fun j => .int .i64 (P.soul (j : Nat) (l.take k) + if j < m then P.onLeg (j : Nat) x else 0))) := hR
          have hmn : (m : Int) < n := by omega
          have hsk : P.onLeg m x = 0 → wr.rowIs w.heap.size 3 n (fun j => .int .i64 (P.soul (j : Nat) (l.take k) + if j < m + 1 then P.onLeg (j : Nat) x else 0)) := fun h => hR.congr (fun j hj => by
            by_cases e : j = m
            · subst e; simp [h]
            · have e2 : (j < m + 1) = (j < m) := by rw [eq_iff_iff]; omega
              simp only [e2])
          have HSK : Aside (P.onLeg m x = 0 → wr.rowIs w.heap.size 3 n (fun j => .int .i64 (P.soul (j : Nat) (l.take k) + if j < m + 1 then P.onLeg (j : Nat) x else 0))) := hsk
          have hce : wr.cell? ⟨w.heap.size, m, none⟩ = some (.int .i64 (P.soul (m : Nat) (l.take k))) := by rw [hR.cell hml]; simp
          have hfr := hR.frozen m
          obtain ⟨y1, y2⟩ := HBD.out m
          clear hR hsk
          obtain ⟨x0, x1, x2, x3, x4, x5, x6, x7, x8, x9, x10⟩ := HX.out.below hBx
          have hbl : b < wr.heap.size := World.block_lt_of_cell? wr _ x0
          have r2 := cell_regrown x2
          have r7 := cell_regrown x7
          have r8 := cell_regrown x8
          cases hst : (x.state != 3)
          · have H0 : Aside (P.onLeg m x = 0) := onLeg_gone (by simp at hst; simp [P.live, hst])
            clear x0 x1 x2 x3 x4 x5 x6 x7 x8 x9 x10
            go_wp2
            refine wp_region_quiet_below (by kernel_rfl) (by kernel_rfl) (Qt.out ?_)
            repeat (refine Qt.step (fun K hK => ?_); go_simp; first | (refine hK _ ?_; clear hK K) | fail)
            refine Qt.fin ?_
            intro w2 hw2
            obtain ⟨⟨dq, osq⟩, hw2⟩ := hw2
            have hb2 := below_regrown wr dq osq
            rw [← hw2] at hb2
            clear hw2 r2 r7 r8
            go_wp2
            go_roundg (n - (m + 1))
            case measure => omega
            case rel => exact ⟨m + 1, by omega, rfl, by go_num, (HSK.out H0.out).of_block (hb2.block _ hRl), bvia hBx hb2⟩
          · cases hbt : P.btw m x.frm (x.to - 1)
            · have H0 : Aside (P.onLeg m x = 0) := by show _ = _; simp [P.onLeg, hbt]
              clear x0 x1 x2 x3 x4 x5 x6 x7 x8 x9 x10
              go_wp2
              refine wp_region_quiet_below (by kernel_rfl) (by kernel_rfl) (Qt.out ?_)
              repeat (refine Qt.step (fun K hK => ?_); go_simp; first | (refine hK _ ?_; clear hK K) | (apply Exists.intro; refine ⟨fun _ => ?_, hK _ ?_⟩; (go_at_call 26; exact Calls.regrown_of (v := .bool false) ((by rw [HW.out]; exact between_is _ _ _ _ _ hbt))); clear hK K))
              refine Qt.fin ?_
              intro w2 hw2
              obtain ⟨⟨dq, osq⟩, hw2⟩ := hw2
              have hb2 := below_regrown wr dq osq
              rw [← hw2] at hb2
              clear hw2 r2 r7 r8
              go_wp2
              go_roundg (n - (m + 1))
              case measure => omega
              case rel => exact ⟨m + 1, by omega, rfl, by go_num, (HSK.out H0.out).of_block (hb2.block _ hRl), bvia hBx hb2⟩
            · have H0 : Aside (P.onLeg m x = x.guests) := by show _ = _; rw [P.onLeg, if_pos (by simp at hst; simp [P.live, hst, hbt])]
              clear x0 x1 x4 x5 x6 x9 x10
              go_wp2
              refine wp_region_quiet_below (by kernel_rfl) (by kernel_rfl) (Qt.out ?_)
              repeat (refine Qt.step (fun K hK => ?_); go_simp; first | (refine hK _ ?_; clear hK K) | (apply Exists.intro; refine ⟨fun _ => ?_, hK _ ?_⟩; (go_at_call 26; exact Calls.regrown_of (v := .bool true) ((by rw [HW.out]; exact between_is _ _ _ _ _ hbt))); clear hK K))
              refine Qt.fin ?_
              intro w2 hw2
              obtain ⟨⟨dq, osq⟩, hw2⟩ := hw2
              have hb2 := below_regrown wr dq osq
              rw [← hw2] at hb2
              have hR2 := HR.out.of_block (hb2.block _ hRl)
              have c3 := cellIn hb2 x3
              have ce := cellIn hb2 hce
              have cf := hR2.frozen m
              have hB2 := bvia hBx hb2
              have hl2 := hR2.lt
              have HR2 : Aside (w2.rowIs w.heap.size 3 n (fun j => .int .i64 (P.soul (j : Nat) (l.take k) + if j < m then P.onLeg (j : Nat) x else 0))) := hR2
              clear hw2 r2 r7 r8 x2 x3 x7 x8 hce hfr hR2 hb2 HR HSK
              generalize hy : P.soul (m : Nat) (l.take k) = y at ce y1 y2
              have HY : Aside (P.soul (m : Nat) (l.take k) = y) := hy
              clear hy
              go_wp2
              go_region
              all_goals
                go_wp2
                go_roundg (n - (m + 1))
                case measure => omega
                case rel =>
                  refine ⟨m + 1, by omega, rfl, by go_num, ?_, (hB2.setCell (p := ⟨w.heap.size, m, none⟩) (Nat.le_refl _) _).drew⟩
                  have hfin : (w2.setCell ⟨w.heap.size, m, none⟩ (.int .i64 (y + x.guests))).rowIs w.heap.size 3 n (fun j => .int .i64 (P.soul (j : Nat) (l.take k) + if j < m + 1 then P.onLeg (j : Nat) x else 0)) :=
                    (HR2.out.set m (.int .i64 (y + x.guests))).congr (fun j hj => by
                      by_cases e : j = m
                      · subst e; rw [if_pos rfl, HY.out, H0.out]; simp
                      · have e2 : (j < m + 1) = (j < m) := by rw [eq_iff_iff]; omega
                        rw [if_neg e]; simp only [e2])
                  exact hfin
        · obtain rfl : m = n := by omega
          go_wp2
          go_roundg (l.length - (k + 1))
          case measure => omega
          case rel => exact ⟨k + 1, by omega, rfl, by go_num, hR.congr (fun j hj => by rw [HT.out, if_pos hj]), hBx⟩
    · obtain rfl : k = l.length := by omega
      go_wp2
      go_ret
      refine ⟨_, rfl, ?_, hB⟩
      refine Ma.own_of_row (n := n) (HR.out.congr fun i hi => ?_) (Nat.le_refl _) (souls_len n l) (by unfold maxLen; omega)
      rw [souls_get hi, List.take_of_length_le (Nat.le_refl _)]

end Go.Proofs.Ytgopdnlmiloipad.Bk
