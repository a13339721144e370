/- Walk of the reference's AskBytes. -/
import Derived.Test.YtfiaeokdcbmedafDoorCdI
import Derived.Test.YtfiaeokdcbmedafDoorCdG
namespace Go.Proofs.YtfiaeokdcbmedafDoor
open Go.RowKit
set_option linter.unusedSimpArgs false
set_option linter.unusedVariables false

theorem askE_zero {a : Ask} (h : P.askE a = 0) : 1 ≤ a.kind ∧ a.kind ≤ 8 ∧ 1 ≤ a.number ∧ a.number ≤ 65535 ∧ P.extra (P.num a) (P.names a.kind) 9 = false ∧ ∀ p ∈ P.names a.kind, 0 ≤ P.num a p ∧ P.num a p ≤ P.mostOf p := by
  unfold P.askE at h
  split at h
  · omega
  · rename_i h1
    split at h
    · omega
    · rename_i h2
      split at h
      · omega
      · rename_i h3
        split at h
        · omega
        · rename_i h4
          simp [P.btw] at h1 h2
          refine ⟨h1.1, h1.2, h2.1, h2.2, by simpa using h3, fun p hp => ?_⟩
          rw [Bool.not_eq_true, List.any_eq_false] at h4
          have := h4 p hp
          simp [P.off] at this
          omega
theorem most_le (p : Nat) : P.mostOf p ≤ 100000000 := by unfold P.mostOf; split <;> omega

theorem nb1 (n : Int) (w : World) (h0 : 1 ≤ n) (h1 : n ≤ 8) : Calls Tryd.prog 18 #[.int .i64 n, .int .i64 1] w fun e w' => e = .returned (V.str (P.be n 1)) ∧ Below w.heap.size w w' := numberBytes_any 1 n w (by decide) (by omega) (by omega)
theorem nb2 (n : Int) (w : World) (h0 : 1 ≤ n) (h1 : n ≤ 65535) : Calls Tryd.prog 18 #[.int .i64 n, .int .i64 2] w fun e w' => e = .returned (V.str (P.be n 2)) ∧ Below w.heap.size w w' := numberBytes_any 2 n w (by decide) (by omega) (by omega)

set_option maxRecDepth 4000 in
set_option maxHeartbeats 2000000 in
theorem askBytes_any (a : Ask) (w : World) (h0 : P.askE a = 0) : Calls Tryd.prog 8 #[V.ask a] w fun e w' => e = .returned (V.str (P.bytes a)) ∧ Below w.heap.size w w' := by
  obtain ⟨q1, q2, q3, q4, _, hp⟩ := askE_zero h0
  have HP : Aside (∀ p ∈ P.names a.kind, 0 ≤ P.num a p ∧ P.num a p ≤ P.mostOf p) := hp
  have HE : Aside (P.bytes a = P.be a.kind 1 ++ P.be a.number 2 ++ P.rest (P.num a) (P.names a.kind)) := rfl
  have HX0 : Aside (RowIs (W.ask w a) w.heap.size (C.ask a)) := RowIs.new w _ _
  have HB0 : Aside (Below w.heap.size w (W.ask w a)) := alB _ _
  clear h0 hp
  have hadd := fun wx : World => run_string_add_sum (P := Tryd.prog) (w := wx) ⟨(P.be a.kind 1).toArray⟩ ⟨(P.be a.number 2).toArray⟩ (by simp [ByteArray.size, be_len])
  rw [cat_bytes] at hadd
  go_enter Tryd.func8, Tryd.ntmps8
  go_wp2
  change Code.wp Tryd.prog _ _ _ (W.ask w a)
  generalize W.ask w a = wB at HX0 HB0 ⊢
  obtain ⟨k0, k1, _⟩ := RowIs.abox HX0.out
  go_cut [3] from 9 to 15 (fun s wx => s = V.str (P.be a.kind 1 ++ P.be a.number 2) ∧ Aside (Below wB.heap.size wB wx))
  case first =>
    go_region_with
      (first
        | (go_at_call 18; with_reducible refine (nb1 a.kind _ q1 q2).mono ?_; rintro e w3 ⟨rfl, hb3⟩; have bb3 : Below wB.heap.size wB w3 := (by first | with_reducible exact bvia (drB _) hb3 | with_reducible exact bvia bb4 hb3); obtain ⟨y0, y1, _⟩ := RowIs.abox (RowIs.below HX0.out bb3))
        | (go_at_call 18; with_reducible refine (nb2 a.number _ q3 q4).mono ?_; rintro e w4 ⟨rfl, hb4⟩; have bb4 : Below wB.heap.size wB w4 := (by first | with_reducible exact bvia (drB _) hb4 | with_reducible exact bvia bb3 hb4); obtain ⟨z0, z1, _⟩ := RowIs.abox (RowIs.below HX0.out bb4)))
    all_goals
      go_wp2_with fail
      go_meet
      first
        | with_reducible exact ⟨rfl, asd bb4⟩
        | with_reducible exact ⟨rfl, asd bb3⟩
  case rest =>
  obtain ⟨rfl, HB⟩ := hcut
  have HXc : Aside (RowIs wc w.heap.size (C.ask a)) := RowIs.below HX0.out HB.out
  obtain ⟨y0, y1, _⟩ := RowIs.abox HXc.out
  have hBc : Below w.heap.size w wc := bvia HB0.out HB.out
  clear hadd k0 k1
  go_wp2_with fail
  refine (namesOf_any _ _).mono ?_
  rintro e w1 ⟨rfl, rfl⟩
  have hnl := names_len a.kind
  have HIN : Aside (∀ p ∈ P.names a.kind, p < 9) := fun p hp => names_lt hp
  generalize P.names a.kind = ps at *
  have hsz := letters_size ps
  clear y0 y1
  go_wp2
  go_loopg [3, 5] ps.length (fun g s i ww => ∃ (j : Nat) (L : List UInt8), j ≤ ps.length ∧ g = ps.length - j ∧ i = .int .i64 j ∧ s = V.str L ∧ Aside (L = P.be a.kind 1 ++ P.be a.number 2 ++ P.rest (P.num a) (ps.take j)) ∧ Below wc.heap.size wc ww)
  case atStart => exact ⟨0, _, by omega, rfl, rfl, rfl, asd (by simp [P.rest]), Below.refl _ _⟩
  case round =>
    obtain ⟨j, L, hj, rfl, rfl, rfl, HL, hB2⟩ := hrel
    by_cases hjl : j < ps.length
    · obtain ⟨x, hx⟩ : ∃ x, ps[j]? = some x := ⟨ps[j], List.getElem?_eq_getElem hjl⟩
      have hx9 : x < 9 := HIN.out x (List.mem_of_getElem? hx)
      have hsj : j < (ByteArray.mk (ps.map P.letter).toArray).size := by rw [hsz]; exact hjl
      have haj := letters_at ps j x hsj hx
      have y1 : (j : Int) < (ps.length : Int) := by omega
      obtain ⟨hx1, hx2⟩ := HP.out x (List.mem_of_getElem? hx)
      have hx3 := most_le x
      have HT : Aside (L ++ P.be (P.num a x) (P.size x) = P.be a.kind 1 ++ P.be a.number 2 ++ P.rest (P.num a) (ps.take (j + 1))) := by
        show _ = _
        rw [HL.out, List.append_assoc, ← rest_snoc, take_on hx]
      have hadd := fun wx : World => run_string_add_sum (P := Tryd.prog) (w := wx) ⟨L.toArray⟩ ⟨(P.be (P.num a x) (P.size x)).toArray⟩ (by
        have hl := congrArg List.length HL.out
        have h1 := rest_le (P.num a) (ps.take j)
        have h2 := size_le x
        simp only [ByteArray.size, be_len, List.length_append, List.length_take, List.size_toArray] at *
        omega)
      rw [cat_bytes] at hadd
      clear hx
      obtain ⟨k0, k1, k2, k3, k4, k5, k6, k7, k8, k9, k10⟩ := RowIs.abox (RowIs.below HXc.out hB2)
      go_wp2
      go_region_held3 (fun u => u.cell? ⟨w.heap.size, 0, none⟩ = some (.int .i64 a.number) ∧ u.cell? ⟨w.heap.size, 1, none⟩ = some (.int .i64 a.kind) ∧ u.cell? ⟨w.heap.size, 2, none⟩ = some (.int .i64 a.id) ∧ u.cell? ⟨w.heap.size, 3, none⟩ = some (.int .i64 a.guests) ∧ u.cell? ⟨w.heap.size, 4, none⟩ = some (.bool a.level) ∧ u.cell? ⟨w.heap.size, 5, none⟩ = some (.int .i64 a.cabin) ∧ u.cell? ⟨w.heap.size, 6, none⟩ = some (.int .i64 a.category) ∧ u.cell? ⟨w.heap.size, 7, none⟩ = some (.int .i64 a.f) ∧ u.cell? ⟨w.heap.size, 8, none⟩ = some (.int .i64 a.t) ∧ u.cell? ⟨w.heap.size, 9, none⟩ = some (.int .i64 a.til) ∧ u.cell? ⟨w.heap.size, 10, none⟩ = some (.int .i64 a.amount))
        (first | with_reducible exact ⟨k0, k1, k2, k3, k4, k5, k6, k7, k8, k9, k10⟩ | with_reducible exact ⟨y0, y1, y2, y3, y4, y5, y6, y7, y8, y9, y10⟩ | go_keep)
        (first
          | (go_at_call 17; refine (valueOf_any a x _ hx9).mono ?_; rintro e w5 ⟨rfl, hb5⟩; obtain ⟨y0, y1, y2, y3, y4, y5, y6, y7, y8, y9, y10⟩ := RowIs.abox (RowIs.below HXc.out (by first | with_reducible exact bvia hB2 hb5 | with_reducible exact bvia hB2 (bvia (drB _) hb5))); have hb5' := bvia (drB _) hb5))
      all_goals
        go_wp2_with fail
        refine (numberBytes_any (P.size x) (P.num a x) _ (size_le x) hx1 (by omega)).mono ?_
        rintro e w6 ⟨rfl, hb6⟩
        go_wp2
        go_roundg (ps.length - (j + 1))
        case measure => omega
        case rel => exact ⟨j + 1, _, by omega, rfl, by go_num, rfl, HT, bvia hB2 (bvia hb5' hb6)⟩
    · obtain rfl : j = ps.length := by omega
      have e : ps.take ps.length = ps := List.take_of_length_le (Nat.le_refl _)
      have HF : Aside (L = P.bytes a) := by show _ = _; rw [HL.out, e, ← HE.out]
      go_wp2
      go_ret
      exact ⟨by rw [HF.out]; rfl, bvia hBc hB2⟩

end Go.Proofs.YtfiaeokdcbmedafDoor
