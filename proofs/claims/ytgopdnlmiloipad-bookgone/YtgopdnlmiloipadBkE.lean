/- The walk of checkAll. -/
import Derived.Test.YtgopdnlmiloipadBkD
namespace Go.Proofs.Ytgopdnlmiloipad.Bk
open Go.RowKit
set_option linter.unusedSimpArgs false
set_option linter.unusedVariables false

/-- G2: bookings of a ship that is right, one by one. -/
def P.bksE (s : Vsl) : List Bkg → Int
  | [] => 0
  | b :: t => if P.bkE s b = 0 then P.bksE s t else P.bkE s b
def P.allE (s : Vsl) (l : List Bkg) : Int := if P.shp s = 0 then P.bksE s l else P.shp s

theorem bks_bad {s : Vsl} {l : List Bkg} {x : Bkg} {k : Nat} (hP : P.bksE s (l.drop k) = P.bksE s l) (hD : l.drop k = x :: l.drop (k + 1)) (h : (P.bkE s x != 0) = true) : P.bksE s l = P.bkE s x := by
  rw [← hP, hD, P.bksE, if_neg (by simpa using h)]
theorem bks_on {s : Vsl} {l : List Bkg} {x : Bkg} {k : Nat} (hP : P.bksE s (l.drop k) = P.bksE s l) (hD : l.drop k = x :: l.drop (k + 1)) (h : (P.bkE s x != 0) = false) : P.bksE s (l.drop (k + 1)) = P.bksE s l := by
  rw [← hP, hD, P.bksE, if_pos (by simpa using h)]
theorem bks_end {s : Vsl} {l : List Bkg} (hP : P.bksE s (l.drop l.length) = P.bksE s l) : P.bksE s l = 0 := by
  rw [← hP, List.drop_of_length_le (Nat.le_refl _)]; rfl
theorem bks_ok {s : Vsl} {l : List Bkg} (h : P.bksE s l = 0) : ∀ b ∈ l, P.bkE s b = 0 := by
  induction l with
  | nil => simp
  | cons b t ih =>
    rw [P.bksE] at h
    split at h
    · rename_i hb
      intro x hx
      rcases List.mem_cons.1 hx with rfl | hx
      · exact hb
      · exact ih h x hx
    · contradiction
theorem all_ok {s : Vsl} {l : List Bkg} (h : P.allE s l = 0) : P.shp s = 0 ∧ ∀ b ∈ l, P.bkE s b = 0 := by
  unfold P.allE at h
  split at h
  · exact ⟨by assumption, bks_ok h⟩
  · contradiction

set_option maxHeartbeats 4000000 in
theorem checkAll_any (s : Vsl) (a : VslA) (ao : Option Addr) (cap : Nat) (l : List Bkg) (w : World) (hs : VslAt w s a) (hl : BksAt w ao cap l) :
    Calls Try.prog 18 #[V.vsl s a, .slice ao l.length cap] w fun e w' => e = .returned (.int .i64 (P.allE s l)) ∧ Below w.heap.size w w' := by
  have hle := hl.le
  have hmx := hl.max
  unfold maxLen at hmx
  have hvx := VBox.new w s a
  have hbt : Below w.heap.size w (w.alloc (.cells #[.int .i64 s.legs, .int .i64 s.souls, .slice a.cao s.cs.length a.cc, .slice a.bao s.bs.length a.bc] 25)) := by go_grown
  cases hz : (P.shp s != 0)
  · have hz0 : P.shp s = 0 := by simpa using hz
    have HE : Aside (P.allE s l = P.bksE s l) := by show _ = _; rw [P.allE, if_pos hz0]
    have HZ : Aside (P.shp s = 0) := hz0
    clear hz0
    go_enter Try.func18, Try.ntmps18
    go_wp2_with (go_at_call 37; refine (shp_any s a _ (hs.below hbt)).mono ?_; rintro e w1 ⟨rfl, hb1⟩)
    go_loopg [16] l.length (fun g i wr => ∃ (k : Nat), k ≤ l.length ∧ g = l.length - k ∧ i = .int .i64 k ∧ P.bksE s (l.drop k) = P.bksE s l ∧ VBox wr w.heap.size s a ∧ w.heap.size < wr.heap.size ∧ Below w.heap.size w wr)
    case atStart => exact ⟨0, Nat.zero_le _, rfl, rfl, rfl, hvx.below hb1, by have := hb1.size; simp at this; omega, bvia hbt hb1⟩
    case round =>
      obtain ⟨k, hk, rfl, rfl, hP, hv, hlw, hB⟩ := hrel
      have HP : Aside (P.bksE s (l.drop k) = P.bksE s l) := hP
      clear hP hvx hbt hb1
      by_cases hlt : k < l.length
      · obtain ⟨b, off, x, fo, fc, rfl, hbw, hd, hx, hfx⟩ := BksAt.get hl hB k hlt
        have HD : Aside (l.drop k = x :: l.drop (k + 1)) := hd
        clear hd
        have hbl : b < wr.heap.size := by omega
        obtain ⟨x0, x1, x2, x3, x4, x5, x6, x7, x8, x9, x10⟩ := hx
        have HV : Aside (VBox wr w.heap.size s a) := hv
        obtain ⟨v0, v1, v2, v3⟩ := hv
        go_wp2_with (go_at_call 38; refine (checkOn_any s a x fo fc _ (hs.below (bvia hB (by go_grown))) (SlAt.below Fo.REnt.mono hfx (by go_grown)) HZ.out).mono ?_; rintro e w2 ⟨rfl, hb2⟩)
        · go_ret
          exact ⟨ret_int (by rw [HE.out, bks_bad HP.out HD.out ‹_›]), bvia (bvia hB (by go_grown)) hb2⟩
        · go_roundg (l.length - (k + 1))
          case measure => omega
          case rel => exact ⟨k + 1, by omega, rfl, by go_num, bks_on HP.out HD.out ‹_›, (HV.out.below (by go_grown)).below hb2, by have := hb2.size; simp at this; omega, bvia (bvia hB (by go_grown)) hb2⟩
      · have : k = l.length := by omega
        subst this
        go_wp2
        go_ret
        exact ⟨ret_int (by rw [HE.out, bks_end HP.out]), hB⟩
  · have HE : Aside (P.allE s l = P.shp s) := by show _ = _; rw [P.allE, if_neg (by simpa using hz)]
    go_enter Try.func18, Try.ntmps18
    go_wp2_with (go_at_call 37; refine (shp_any s a _ (hs.below hbt)).mono ?_; rintro e w1 ⟨rfl, hb1⟩)
    go_ret
    exact ⟨ret_int HE.out.symm, bvia hbt hb1⟩

end Go.Proofs.Ytgopdnlmiloipad.Bk
