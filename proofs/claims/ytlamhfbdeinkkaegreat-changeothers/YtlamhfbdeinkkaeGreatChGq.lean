/- Package change: the literal of Sure. -/
import Derived.Test.YtlamhfbdeinkkaeGreatChFq
import Derived.Test.YtlamhfbdeinkkaeGreatChAq
namespace Go.Proofs.YtlamhfbdeinkkaeGreat.St
open Go.RowKit Bk
set_option linter.unusedSimpArgs false
set_option linter.unusedVariables false
set_option maxRecDepth 10000

/-- A store of one cell of an element. -/
theorem own_put1 {w : World} {base G cap n k j : Nat} {lv : List BkV} {y z : BkV} {v : Value} (h : OwnB w base (.slice (some ⟨G, 0, none⟩) n cap) lv) (hn : lv.length = n) (hk : lv[k]? = some y) (hj : j < 11) (hz : cellsV z = (cellsV y).set j v) :
    OwnB (w.setCell ⟨G, k * 11 + j, none⟩ v) base (.slice (some ⟨G, 0, none⟩) n cap) (lv.set k z) ∧ w.grownBy (w.setCell ⟨G, k * 11 + j, none⟩ v) (some G) := by
  subst hn
  obtain ⟨hkl, hky⟩ := List.getElem?_eq_some_iff.1 hk
  have hp := own_put cellsV_len cellsV_one h k z hkl
  rw [List.length_set] at hp
  obtain ⟨cur, h1, h2, h3, _⟩ := own_row h rfl (by omega)
  have hcur : ∃ A R, cur.toList = A ++ cellsV y ++ R ∧ A.length = k * 11 := by
    obtain ⟨hx, hor⟩ := h
    rcases hor with ⟨h4, _⟩ | ⟨g', cap', cur', hv, hgb, hh, hn', hcm, hsz, htk⟩
    · simp at h4
    · simp only [Value.slice.injEq, Option.some.injEq, Addr.mk.injEq, and_true] at hv
      obtain ⟨rfl, _, rfl⟩ := hv
      rw [h1] at hh
      simp only [Option.some.injEq, Obj.cells.injEq] at hh
      obtain rfl := hh.1
      refine ⟨(lv.take k).flatMap cellsV, (lv.drop (k + 1)).flatMap cellsV ++ cur.toList.drop (lv.length * 11), ?_, ?_⟩
      · have e : lv.flatMap cellsV = (lv.take k).flatMap cellsV ++ cellsV y ++ (lv.drop (k + 1)).flatMap cellsV := by
          have hd : lv = lv.take k ++ y :: lv.drop (k + 1) := by
            rw [← hky, ← List.drop_eq_getElem_cons hkl, List.take_append_drop]
          conv => lhs; rw [hd]
          rw [List.flatMap_append, List.flatMap_cons, List.append_assoc]
        rw [← List.append_assoc, ← e, ← htk, List.take_append_drop]
      · rw [flatC_len cellsV_len, List.length_take]
        omega
  obtain ⟨A, R, hc, hA⟩ := hcur
  have hY := cellsV_len y
  have hcl : cur.toList.length = cap * 11 := by simpa using h2
  have hcl2 : A.length + 11 + R.length = cap * 11 := by rw [hc] at hcl; simp [hY] at hcl; omega
  have hv1 : v.oneCell' = true := cellsV_one z v (by rw [hz]; exact List.mem_set (by omega) v)
  have e1 : w.setCell ⟨G, k * 11 + j, none⟩ v = w.setRow G (cur.toList.take (k * 11 + j) ++ [v] ++ cur.toList.drop (k * 11 + j + 1)).toArray :=
    setCells_row w G (k * 11 + j) _ [v] cur h1 (by simp; omega) (fun u hu => by simp at hu; rw [hu]; exact hv1)
  have e2 := setCells_row w G (k * 11) _ (cellsV z) cur h1 (by rw [cellsV_len]; omega) (cellsV_one z)
  have e3 : cur.toList.take (k * 11 + j) ++ [v] ++ cur.toList.drop (k * 11 + j + 1) = cur.toList.take (k * 11) ++ cellsV z ++ cur.toList.drop (k * 11 + (cellsV z).length) := by
    rw [cellsV_len, hc, hz, List.append_assoc A]
    have t1 : (A ++ (cellsV y ++ R)).take (k * 11 + j) = A ++ (cellsV y).take j := by
      rw [List.take_append, List.take_of_length_le (by omega), hA, Nat.add_sub_cancel_left, List.take_append, show j - (cellsV y).length = 0 by omega]
      simp
    have t2 : (A ++ (cellsV y ++ R)).drop (k * 11 + j + 1) = (cellsV y).drop (j + 1) ++ R := by
      rw [List.drop_append, List.drop_of_length_le (by omega), hA, List.nil_append, show k * 11 + j + 1 - k * 11 = j + 1 by omega, List.drop_append, show j + 1 - (cellsV y).length = 0 by omega]
      simp
    have t3 : (A ++ (cellsV y ++ R)).take (k * 11) = A := by
      rw [List.take_append, List.take_of_length_le (by omega), hA]
      simp
    have t4 : (A ++ (cellsV y ++ R)).drop (k * 11 + 11) = R := by
      rw [List.drop_append, List.drop_of_length_le (by omega), hA, List.nil_append, show k * 11 + 11 - k * 11 = 11 by omega, List.drop_append, List.drop_of_length_le (by omega), hY]
      simp
    rw [t1, t2, t3, t4, List.set_eq_take_append_cons_drop, if_pos (by omega)]
    simp [List.append_assoc]
  have e : w.setCell ⟨G, k * 11 + j, none⟩ v = w.setCells G (k * 11) (cellsV z) := by rw [e1, e2, e3]
  rw [e]
  exact hp
theorem own_cell {w : World} {base G cap n k : Nat} {lv : List BkV} {y : BkV} (h : OwnB w base (.slice (some ⟨G, 0, none⟩) n cap) lv) (hn : lv.length = n) (hk : lv[k]? = some y) (j : Nat) (hj : j < 11) : w.cell? ⟨G, k * 11 + j, none⟩ = (cellsV y)[j]? ∧ w.frozen? ⟨G, k * 11 + j, none⟩ = false := by
  obtain ⟨hkl, hky⟩ := List.getElem?_eq_some_iff.1 hk
  refine ⟨?_, (own_there h hn (by omega) j hj).2⟩
  have hs := own_at cellsV_len h
  obtain ⟨b', off, x, cs, h1, h2, h3, h4, h5, h6⟩ := SlAt.get (RC.mono _) hs (Below.refl _ _) k (by omega)
  have hx : x = y := by
    have h0 : lv[k]? = some x := by
      have := congrArg (fun l => l[0]?) h3
      simpa using this
    rw [hk] at h0
    exact (Option.some.inj h0).symm
  subst hx
  simp only [Option.some.injEq, Addr.mk.injEq, and_true] at h1
  obtain ⟨rfl, rfl⟩ := h1
  have hcs : cs = cellsV x := h4
  subst hcs
  have hl := cellsV_len x
  have := h6 j _ (List.getElem?_eq_getElem (by omega))
  rw [Nat.zero_add] at this
  rw [this, List.getElem?_eq_getElem (by omega)]

set_option maxHeartbeats 2000000 in
theorem sure1_lit (w : World) (b : Bkg) : LitOk w 64 #[] b (P.sureT b) := by
  intro U m G n k lv fo fc hB _ hO hn hk hE
  show Calls Tryz.prog 64 #[.pointer (some ⟨G, k * 11, none⟩)] U _
  have hkl : k < lv.length := (List.getElem?_eq_some_iff.1 hk).1
  have c2 : U.cell? ⟨G, k * 11 + 2, none⟩ = some (.int .i64 b.state) := (own_cell hO hn hk 2 (by decide)).1
  have f2 := (own_cell hO hn hk 2 (by decide)).2
  have c9 : U.cell? ⟨G, k * 11 + 9, none⟩ = some (.int .i64 b.til) := (own_cell hO hn hk 9 (by decide)).1
  have f9 := (own_cell hO hn hk 9 (by decide)).2
  have HO : Aside (OwnB U m (.slice (some ⟨G, 0, none⟩) n n) lv) := hO
  have HK : Aside (lv[k]? = some (b, fo, fc)) := hk
  have HN : Aside (lv.length = n) := hn
  have HE : Aside (Fo.OwnN U (G + 1) (.slice fo b.fol.length fc) b.fol) := hE
  have HKL : Aside (k < lv.length) := hkl
  obtain ⟨cur, r1, r2, r3, hGm⟩ := own_row hO hn (by omega)
  have hGU : G < U.heap.size := (Array.getElem?_eq_some_iff.1 r1).1
  clear hO hk hn hE hB r1 r2 r3 hkl
  cases hs1 : (b.state != 1)
  rotate_left
  · have HS : Aside (¬ b.state = 1) := by show ¬ _; simpa using hs1
    go_enter Tryz.func64, Tryz.ntmps64
    go_wp2
    go_ret
    exact ⟨4, b, rfl, ⟨by rw [if_neg HS.out], fun h => absurd h (by decide)⟩, fun i _ _ => rfl, Below.refl _ _, fun h => absurd h (by decide)⟩
  · have HS : Aside (b.state = 1) := by show _ = _; simpa using hs1
    obtain ⟨p1, p2⟩ := own_put1 (z := (⟨b.id, b.kind, 2, b.guests, b.level, b.cabin, b.cat, b.frm, b.to, b.til, b.fol⟩, fo, fc)) (v := .int .i64 2) HO.out HN.out HK.out (j := 2) (by decide) rfl
    obtain ⟨p3, p4⟩ := own_put1 (z := (P.sureB b, fo, fc)) (v := .int .i64 0) p1 (by rw [List.length_set]; exact HN.out) (List.getElem?_set_self HKL.out) (j := 9) (by decide) rfl
    have HP : Aside (OwnB ((U.setCell ⟨G, k * 11 + 2, none⟩ (.int .i64 2)).setCell ⟨G, k * 11 + 9, none⟩ (.int .i64 0)) m (.slice (some ⟨G, 0, none⟩) n n) (lv.set k (P.sureB b, fo, fc))) := by
      rw [List.set_set] at p3
      exact p3
    have HE2 : Aside (Fo.OwnN ((U.setCell ⟨G, k * 11 + 2, none⟩ (.int .i64 2)).setCell ⟨G, k * 11 + 9, none⟩ (.int .i64 0)) (G + 1) (.slice fo b.fol.length fc) b.fol) := by
      have h1 := OwnC.apart HE.out p2 (fun r e hv => by cases e; have := (HE.out.lt _ hv).1; omega)
      exact OwnC.apart h1 p4 (fun r e hv => by cases e; have := (h1.lt _ hv).1; omega)
    have HS2 : Aside (∀ i, i < U.heap.size → i ≠ G → ((U.setCell ⟨G, k * 11 + 2, none⟩ (.int .i64 2)).setCell ⟨G, k * 11 + 9, none⟩ (.int .i64 0)).heap[i]? = U.heap[i]?) := fun i hi hne => by
      rw [p4.block i (Nat.lt_of_lt_of_le hi p2.size) (by simp; omega), p2.block i hi (by simp; omega)]
    have HB2 : Aside (Below m U ((U.setCell ⟨G, k * 11 + 2, none⟩ (.int .i64 2)).setCell ⟨G, k * 11 + 9, none⟩ (.int .i64 0))) :=
      below_gr (below_gr (Below.refl m U) (by omega) p2 hGm) (Nat.le_trans (by omega) p2.size) p4 hGm
    clear p1 p2 p3 p4
    go_enter Tryz.func64, Tryz.ntmps64
    go_wp2
    go_ret
    exact ⟨0, P.sureB b, rfl, ⟨by rw [if_pos HS.out], fun _ => rfl⟩, HS2.out, HB2.out, fun _ => ⟨fo, fc, HP.out, HE2.out⟩⟩
theorem sure1_calls : ∀ (args : Array Value) (wx : World), (callFunc 64 args).run Tryz.prog wx = .ok (.enter 64 args) wx := enters_of Tryz.func64 (by kernel_rfl) rfl

end Go.Proofs.YtlamhfbdeinkkaeGreat.St
