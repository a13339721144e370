/- The walk of BookGone. -/
import Derived.Test.YtgopdnlmiloipadBkR
namespace Go.Proofs.Ytgopdnlmiloipad.Bk
open Go.RowKit
set_option linter.unusedSimpArgs false
set_option linter.unusedVariables false

set_option maxRecDepth 10000 in
set_option maxHeartbeats 4000000 in
theorem bookGone_out (s : Vsl) (a : VslA) (ao : Option Addr) (cap : Nat) (l : List Bkg) (n cabin : Int) (w : World) (hs : VslAt w s a) (hl : BksAt w ao cap l) (hout : n < 0 ∨ (l.length : Int) ≤ n) :
    Calls Try.prog 4 #[V.vsl s a, .slice ao l.length cap, .int .i64 n, .int .i64 cabin] w fun e w' => e = .returned (.bool true) ∧ Below w.heap.size w w' := by
  have hle := hl.le
  have hmx := hl.max
  unfold maxLen at hmx
  have hb0 : Below w.heap.size w (w.alloc (.cells #[.int .i64 s.legs, .int .i64 s.souls, .slice a.cao s.cs.length a.cc, .slice a.bao s.bs.length a.bc] 25)) := by go_grown
  by_cases h0 : n < 0
  · go_enter Try.func4, Try.ntmps4
    go_wp2_with fail
    refine (bookBegun_any _).mono ?_
    rintro e w1 ⟨rfl, hb1⟩
    clear hout
    go_wp2
    refine wp_region_quiet_below (by kernel_rfl) (by kernel_rfl) (Qt.out ?_)
    repeat (refine Qt.step (fun K hK => ?_); go_simp; first | (refine hK _ ?_; clear hK K) | fail)
    refine Qt.fin ?_
    intro w2 hw2
    obtain ⟨⟨dq, osq⟩, hw2⟩ := hw2
    have hb2 := below_regrown w1 dq osq
    rw [← hw2] at hb2
    clear hw2
    go_wp2
    go_ret
    exact ⟨rfl, bvia hb0 (bvia hb1 hb2)⟩
  · have h1 : (l.length : Int) ≤ n := by omega
    have hd0 : decide (n < 0) = false := by simp; omega
    clear hout
    go_enter Try.func4, Try.ntmps4
    go_wp2_with fail
    refine (bookBegun_any _).mono ?_
    rintro e w1 ⟨rfl, hb1⟩
    go_wp2
    refine wp_region_quiet_below (by kernel_rfl) (by kernel_rfl) (Qt.out ?_)
    repeat (refine Qt.step (fun K hK => ?_); go_simp; first | (refine hK _ ?_; clear hK K) | fail)
    refine Qt.fin ?_
    intro w2 hw2
    obtain ⟨⟨dq, osq⟩, hw2⟩ := hw2
    have hb2 := below_regrown w1 dq osq
    rw [← hw2] at hb2
    clear hw2
    go_wp2
    go_ret
    exact ⟨rfl, bvia hb0 (bvia hb1 hb2)⟩

set_option maxRecDepth 10000 in
set_option maxHeartbeats 4000000 in
theorem bookGone_no (s : Vsl) (a : VslA) (ao : Option Addr) (cap : Nat) (l : List Bkg) (k : Nat) (cabin : Int) (w : World) (hs : VslAt w s a) (lv : List BkV) (hlv : BkVsAt w ao cap lv) (hl : lv.map (·.1) = l) (hk : k < l.length) (x : BkV) (hx : lv[k]? = some x) (hno : (x.1.state != 3) = true ∨ (P.checkE s x.1 != 0) = true) :
    Calls Try.prog 4 #[V.vsl s a, .slice ao l.length cap, .int .i64 k, .int .i64 cabin] w fun e w' => e = .returned (.bool true) ∧ Below w.heap.size w w' := by
  obtain ⟨x, fo, fc⟩ := x
  have hlen : lv.length = l.length := by rw [← hl]; simp
  have hle : l.length ≤ cap := by rw [← hlen]; exact hlv.le
  have hmx := hlv.max
  unfold maxLen at hmx
  have hb0 : Below w.heap.size w (w.alloc (.cells #[.int .i64 s.legs, .int .i64 s.souls, .slice a.cao s.cs.length a.cc, .slice a.bao s.bs.length a.bc] 25)) := by go_grown
  have hv0 := VBox.new w s a
  obtain ⟨b, off, y, rfl, hbw, hd, hy, hfy⟩ := BkVsAt.get hlv (Below.refl _ w) k (by omega)
  obtain rfl : y = (x, fo, fc) := by
    have h1 : lv[k]? = some y := by rw [← List.head?_drop, hd]; rfl
    rw [hx] at h1
    exact (Option.some.inj h1).symm
  simp only at hy hfy hno
  have hkl : (k : Int) < l.length := by omega
  have hd0 : decide ((k : Int) < 0) = false := by simp
  have hd1 : decide ((l.length : Int) ≤ (k : Int)) = false := by simp; omega
  have HY : Aside (BkAt w b (off + k * 11) x fo fc) := hy
  clear hd hx hlen hl hlv hy
  cases hst : (x.state != 3)
  · have hck : (P.checkE s x != 0) = true := by rcases hno with h | h <;> simp_all
    clear hno
    go_enter Try.func4, Try.ntmps4
    go_wp2_with fail
    refine (bookBegun_any _).mono ?_
    rintro e w1 ⟨rfl, hb1⟩
    have hB1 := bvia hb0 hb1
    obtain ⟨x0, x1, x2, x3, x4, x5, x6, x7, x8, x9, x10⟩ := HY.out.below hB1
    obtain ⟨p0, p1, p2, p3⟩ := hv0.below hb1
    have HC : Aside (∀ W : World, Below w1.heap.size w1 W → Calls Try.prog 13 #[V.vsl s a, V.bk x fo fc] W fun e w' => e = .returned (.int .i64 (P.checkE s x)) ∧ Below W.heap.size W w') := fun W hW => bookCheck_any s a x fo fc W (hs.below (bvia hB1 hW)) (SlAt.below Fo.REnt.mono hfy (bvia hB1 hW))
    have r0 := cell_regrown x0
    have r1 := cell_regrown x1
    have r2 := cell_regrown x2
    have r3 := cell_regrown x3
    have r4 := cell_regrown x4
    have r5 := cell_regrown x5
    have r6 := cell_regrown x6
    have r7 := cell_regrown x7
    have r8 := cell_regrown x8
    have r9 := cell_regrown x9
    have r10 := cell_regrown x10
    have t0 := cell_regrown p0
    have t1 := cell_regrown p1
    have t2 := cell_regrown p2
    have t3 := cell_regrown p3
    clear x0 x1 x2 x3 x4 x5 x6 x7 x8 x9 x10 p0 p1 p2 p3 hv0 hb0 hb1
    go_wp2
    refine wp_region_quiet_below (by kernel_rfl) (by kernel_rfl) (Qt.out ?_)
    repeat (refine Qt.step (fun K hK => ?_); go_simp; first | (refine hK _ ?_; clear hK K) | (apply Exists.intro; refine ⟨fun _ => ?_, hK _ ?_⟩; (go_at_call 13; exact Calls.regrown_of (v := .int .i64 (P.checkE s x)) (HC.out _ (below_regrown _ _ _))); clear hK K))
    refine Qt.fin ?_
    intro w2 hw2
    obtain ⟨⟨dq, osq⟩, hw2⟩ := hw2
    have hb2 := below_regrown w1 dq osq
    rw [← hw2] at hb2
    clear hw2 r0 r1 r2 r3 r4 r5 r6 r7 r8 r9 r10 t0 t1 t2 t3 HC
    go_wp2
    go_ret
    exact ⟨rfl, bvia hB1 hb2⟩
  · clear hno
    go_enter Try.func4, Try.ntmps4
    go_wp2_with fail
    refine (bookBegun_any _).mono ?_
    rintro e w1 ⟨rfl, hb1⟩
    have hB1 := bvia hb0 hb1
    have r2 := cell_regrown (HY.out.below hB1).c2
    clear hv0 hb0 hb1
    go_wp2
    refine wp_region_quiet_below (by kernel_rfl) (by kernel_rfl) (Qt.out ?_)
    repeat (refine Qt.step (fun K hK => ?_); go_simp; first | (refine hK _ ?_; clear hK K) | fail)
    refine Qt.fin ?_
    intro w2 hw2
    obtain ⟨⟨dq, osq⟩, hw2⟩ := hw2
    have hb2 := below_regrown w1 dq osq
    rw [← hw2] at hb2
    clear hw2 r2
    go_wp2
    go_ret
    exact ⟨rfl, bvia hB1 hb2⟩

end Go.Proofs.Ytgopdnlmiloipad.Bk
