/- Walks of asks, codeBegun. -/
import Derived.Test.YtfiaeokdcbmedafDoorCdJ
import Derived.Deep.RegionHeld
namespace Go.Proofs.YtfiaeokdcbmedafDoor
open Go.RowKit
set_option linter.unusedSimpArgs false
set_option linter.unusedVariables false

abbrev T.A0 : Ask := ⟨1, 1, 5, 2, true, 1, 0, 0, 2, 0, 0⟩
abbrev T.A1 : Ask := ⟨2, 4, 5, 0, false, 0, 0, 0, 0, 0, 300⟩
abbrev T.L0 : List UInt8 := [1, 0, 1, 0, 0, 5, 2, 1, 0, 2, 1, 0, 0]
theorem put_size (a : Act) (d : Option Tmp) (v : Value) : (a.put d v).tmps.size = a.tmps.size := by cases d <;> simp [Act.put]
theorem put_ret (a : Act) (v : Value) (h : 0 < a.tmps.size) : (a.put (some 0) v).tmps.getD 0 undef = v := by simp [Act.put, h]
theorem t_e0 : P.askE T.A0 = 0 := by decide +kernel
theorem t_e1 : P.askE T.A1 = 0 := by decide +kernel
theorem t_l0 : P.encL T.A0 = T.L0 := by decide +kernel
theorem t_d0 : P.decE T.L0 = 0 := by decide +kernel
theorem t_a0 : P.decA T.L0 = T.A0 := by decide +kernel

set_option maxRecDepth 4000 in
set_option maxHeartbeats 1000000 in
theorem asks_any (w : World) : Calls Tryd.prog 19 #[] w fun e w' => ∃ g, e = .returned (.slice (some ⟨g, 0, none⟩) 3 3) ∧ (w'.cell? ⟨g, 0, none⟩ = some (.int .i64 T.A0.number) ∧ w'.cell? ⟨g, 1, none⟩ = some (.int .i64 T.A0.kind) ∧ w'.cell? ⟨g, 2, none⟩ = some (.int .i64 T.A0.id) ∧ w'.cell? ⟨g, 3, none⟩ = some (.int .i64 T.A0.guests) ∧ w'.cell? ⟨g, 4, none⟩ = some (.bool T.A0.level) ∧ w'.cell? ⟨g, 5, none⟩ = some (.int .i64 T.A0.cabin) ∧ w'.cell? ⟨g, 6, none⟩ = some (.int .i64 T.A0.category) ∧ w'.cell? ⟨g, 7, none⟩ = some (.int .i64 T.A0.f) ∧ w'.cell? ⟨g, 8, none⟩ = some (.int .i64 T.A0.t) ∧ w'.cell? ⟨g, 9, none⟩ = some (.int .i64 T.A0.til) ∧ w'.cell? ⟨g, 10, none⟩ = some (.int .i64 T.A0.amount)) ∧ (w'.cell? ⟨g, 11, none⟩ = some (.int .i64 T.A1.number) ∧ w'.cell? ⟨g, 12, none⟩ = some (.int .i64 T.A1.kind) ∧ w'.cell? ⟨g, 13, none⟩ = some (.int .i64 T.A1.id) ∧ w'.cell? ⟨g, 14, none⟩ = some (.int .i64 T.A1.guests) ∧ w'.cell? ⟨g, 15, none⟩ = some (.bool T.A1.level) ∧ w'.cell? ⟨g, 16, none⟩ = some (.int .i64 T.A1.cabin) ∧ w'.cell? ⟨g, 17, none⟩ = some (.int .i64 T.A1.category) ∧ w'.cell? ⟨g, 18, none⟩ = some (.int .i64 T.A1.f) ∧ w'.cell? ⟨g, 19, none⟩ = some (.int .i64 T.A1.t) ∧ w'.cell? ⟨g, 20, none⟩ = some (.int .i64 T.A1.til) ∧ w'.cell? ⟨g, 21, none⟩ = some (.int .i64 T.A1.amount)) ∧ Below w.heap.size w w' := by
  go_enter Tryd.func19, Tryd.ntmps19
  go_wp2
  go_ret
  exact ⟨_, rfl, by simp, by simp, by go_grown⟩

set_option maxRecDepth 4000 in
set_option maxHeartbeats 8000000 in
theorem codeBegun_any (w : World) (hp : PartsAt w) : Calls Tryd.prog 10 #[] w fun e w' => e = .returned (.bool true) ∧ Below w.heap.size w w' := by
  go_enter Tryd.func10, Tryd.ntmps10
  go_wp2_with fail
  refine (asks_any _).mono ?_
  rintro e w1 ⟨g1, rfl, ⟨k0, k1, k2, k3, k4, k5, k6, k7, k8, k9, k10⟩, _, hb1⟩
  go_wp2_with fail
  refine (encode_any T.A0 _ (hp.below hb1)).mono ?_
  rintro e w2 ⟨rfl, hb2⟩
  rw [t_e0, t_l0]
  have hB2 : Below w.heap.size w w2 := bvia hb1 hb2
  clear hb1 hb2 k0 k1 k2 k3 k4 k5 k6 k7 k8 k9 k10
  go_wp2_with fail
  refine (decode_any T.L0 _ (by decide) (hp.below hB2)).mono ?_
  rintro e w3 ⟨rfl, hb3⟩
  rw [t_d0, t_a0]
  have HX0 : Aside (RowIs (W.ask w3 T.A0) w3.heap.size (C.ask T.A0)) := RowIs.new w3 _ _
  have HB0 : Aside (Below w.heap.size w (W.ask w3 T.A0)) := bvia hB2 (bvia hb3 (alB _ _))
  clear hB2 hb3
  go_wp2_with fail
  change Code.wp Tryd.prog _ _ _ (W.ask w3 T.A0)
  generalize W.ask w3 T.A0 = wB at HX0 HB0 ⊢
  obtain ⟨k0, k1, k2, k3, k4, k5, k6, k7, k8, k9, k10⟩ := RowIs.abox HX0.out
  go_region_with
    (first
      | (go_at_call 19; refine (asks_any _).mono ?_; rintro e w6 ⟨g6, rfl, ⟨y0, y1, y2, y3, y4, y5, y6, y7, y8, y9, y10⟩, ⟨z0, z1, z2, z3, z4, z5, z6, z7, z8, z9, z10⟩, hb6⟩; have bb6 : Below wB.heap.size wB w6 := (by first | with_reducible exact bvia (drB _) hb6 | with_reducible exact bvia bb7 hb6); obtain ⟨k0, k1, k2, k3, k4, k5, k6, k7, k8, k9, k10⟩ := RowIs.abox (RowIs.below HX0.out bb6))
      | (go_at_call 11; refine (codeCheck_any T.A1 _ (hp.below (bvia HB0.out bb6))).mono ?_; rintro e w7 ⟨rfl, hb7⟩; rw [t_e1]; have bb7 : Below wB.heap.size wB w7 := bvia bb6 hb7; obtain ⟨k0, k1, k2, k3, k4, k5, k6, k7, k8, k9, k10⟩ := RowIs.abox (RowIs.below HX0.out bb7)))
  all_goals
    go_wp2
    go_ret
    exact ⟨congrArg Ending.returned (put_ret _ _ (by simp only [put_size]; first | exact Nat.succ_pos _ | decide | simp)), bvia HB0.out bb6⟩

end Go.Proofs.YtfiaeokdcbmedafDoor
