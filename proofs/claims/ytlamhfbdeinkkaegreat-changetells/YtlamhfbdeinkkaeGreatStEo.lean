/- The reference: BookingAt. -/
import Derived.Test.YtlamhfbdeinkkaeGreatStAo
namespace Go.Proofs.YtlamhfbdeinkkaeGreat.St
open Go.RowKit Bk
set_option linter.unusedSimpArgs false
set_option linter.unusedVariables false
set_option maxRecDepth 10000

/-- The place of a number; -1: it is not there. -/
def P.bat (id : Int) : Nat → List Bkg → Int
  | _, [] => -1
  | i, b :: t => if b.id = id then i else P.bat id (i + 1) t
theorem bat_neg {id : Int} {i : Nat} {l : List Bkg} : P.bat id i l = -1 ↔ ∀ b ∈ l, b.id ≠ id := by
  induction l generalizing i with
  | nil => simp [P.bat]
  | cons b t ih =>
    rw [P.bat]
    split
    · rename_i h
      simp [h]
    · rename_i h
      rw [ih]
      simp [h]
set_option maxHeartbeats 1000000 in
theorem bookingAt_any (x : Sail) (a : SailA) (id : Int) (w : World) (hs : SailAt w x a) :
    Calls Tryz.prog 13 #[V.sail x a, .int .i64 id] w fun e w' => e = .returned (.int .i64 (P.bat id 0 x.bks)) ∧ Below w.heap.size w w' := by
  have hle := hs.bks.le
  have hmx := hs.bks.max
  unfold maxLen at hmx
  have hsx := SBox.new w x a
  have hsb := sail_below w x a
  go_enter Tryz.func13, Tryz.ntmps13
  go_wp2
  go_loopg [5] x.bks.length (fun g i wr => ∃ (k : Nat), k ≤ x.bks.length ∧ g = x.bks.length - k ∧ i = .int .i64 k ∧ Aside (P.bat id k (x.bks.drop k) = P.bat id 0 x.bks) ∧ SBox wr w.heap.size x a ∧ Below w.heap.size w wr)
  case atStart => exact ⟨0, Nat.zero_le _, rfl, rfl, rfl, hsx, hsb⟩
  case round =>
    obtain ⟨k, hk, rfl, rfl, HP, hbx, hB⟩ := hrel
    have HBX : Aside (SBox wr w.heap.size x a) := hbx
    have c11 := hbx.c11
    clear hbx
    by_cases hlt : k < x.bks.length
    · obtain ⟨b, off, y, fo, fc, hao, hbw, hd, hy, hfy⟩ := BksAt.get hs.bks hB k hlt
      have h : P.bat id k (x.bks.drop k) = P.bat id 0 x.bks := HP
      rw [hd, P.bat] at h
      have HP2 : Aside ((if y.id = id then (k : Int) else P.bat id (k + 1) (x.bks.drop (k + 1))) = P.bat id 0 x.bks) := h
      rw [hao] at c11
      have y0 := hy.c0
      have hkl : (k : Int) < x.bks.length := by omega
      clear h hd HP hy hfy hao
      cases hy : (y.id == id)
      · have HP3 : Aside (P.bat id (k + 1) (x.bks.drop (k + 1)) = P.bat id 0 x.bks) := by have := HP2.out; rw [if_neg (by simpa using hy)] at this; exact this
        clear HP2
        go_wp2
        go_roundg (x.bks.length - (k + 1))
        case measure => omega
        case rel => exact ⟨k + 1, by omega, rfl, by go_num, HP3, HBX.out, hB⟩
      · have HP3 : Aside ((k : Int) = P.bat id 0 x.bks) := by have := HP2.out; rw [if_pos (by simpa using hy)] at this; exact this
        clear HP2
        go_wp2
        go_ret
        exact ⟨ret_int HP3.out, hB⟩
    · obtain rfl : k = x.bks.length := by omega
      have h : P.bat id x.bks.length (x.bks.drop x.bks.length) = P.bat id 0 x.bks := HP
      rw [List.drop_of_length_le (Nat.le_refl _), P.bat] at h
      have HP3 : Aside (-1 = P.bat id 0 x.bks) := h
      clear h HP
      go_wp2
      go_ret
      exact ⟨ret_int HP3.out, hB⟩

end Go.Proofs.YtlamhfbdeinkkaeGreat.St
