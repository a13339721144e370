/- The walks of CodeBack and CodeTells. -/
import Derived.Test.YtfiaeokdcbmedafDoorCdN
import Derived.Test.YtfiaeokdcbmedafDoorCdL
import Derived.Test.YtfiaeokdcbmedafDoorCdP
namespace Go.Proofs.YtfiaeokdcbmedafDoor
open Go.RowKit
set_option linter.unusedSimpArgs false
set_option linter.unusedVariables false

theorem enc_len (a : Ask) : (P.encL a).length ≤ 31 := by
  rw [P.encL]
  split
  · exact (bytes_le a).2
  · simp
theorem ask_same {a b : Ask} (h : a = b) : a.number = b.number ∧ a.kind = b.kind ∧ a.id = b.id ∧ a.guests = b.guests ∧ a.level = b.level ∧ a.cabin = b.cabin ∧ a.category = b.category ∧ a.f = b.f ∧ a.t = b.t ∧ a.til = b.til ∧ a.amount = b.amount := by subst h; simp

set_option maxRecDepth 4000 in
set_option maxHeartbeats 16000000 in
theorem codeBack_walk (a : Ask) (l : List UInt8) (w : World) (hp : PartsAt w) (hl : l.length ≤ 9223372036854775807) : Calls Tryd.prog 4 #[V.ask a, V.str l] w fun e w' => e = .returned (.bool true) ∧ Below w.heap.size w w' := by
  have HX0 : Aside (RowIs (W.ask w a) w.heap.size (C.ask a)) := RowIs.new w _ _
  have HB0 : Aside (Below w.heap.size w (W.ask w a)) := alB _ _
  by_cases h0 : P.askE a = 0
  · obtain ⟨e1, e2⟩ := enc_back h0
    have HE1 : Aside (P.encL a = P.bytes a) := by show _ = _; rw [P.encL, if_pos h0]
    have HE2 : Aside (P.decE (P.encL a) = 0 ∧ P.decA (P.encL a) = a) := by show _ ∧ _; rw [HE1.out]; exact ⟨e1, e2⟩
    have HE0 := show Aside _ from h0
    clear h0 e1 e2
    go_enter Tryd.func4, Tryd.ntmps4
    go_wp2_with fail
    refine (codeBegun_any _ (hp.below HB0.out)).mono ?_
    rintro e w1 ⟨rfl, hb1⟩
    have HB1 : Aside (Below w.heap.size w w1) := bvia HB0.out hb1
    have HX1 : Aside (RowIs w1 w.heap.size (C.ask a)) := RowIs.below HX0.out hb1
    obtain ⟨k0, k1, k2, k3, k4, k5, k6, k7, k8, k9, k10⟩ := RowIs.abox HX1.out
    clear hb1
    go_wp2_with fail
    refine (encode_any a _ (hp.below HB1.out)).mono ?_
    rintro e w2 ⟨rfl, hb2⟩
    rw [HE0.out]
    have HB2 : Aside (Below w.heap.size w w2) := bvia HB1.out hb2
    have HX2 : Aside (RowIs w2 w.heap.size (C.ask a)) := RowIs.below HX1.out hb2
    clear hb2 k0 k1 k2 k3 k4 k5 k6 k7 k8 k9 k10
    go_wp2_with fail
    refine (decode_any (P.encL a) _ (by have := enc_len a; omega) (hp.below HB2.out)).mono ?_
    rintro e w3 ⟨rfl, hb3⟩
    rw [HE2.out.1, HE2.out.2]
    have HBZ : Aside (Below w.heap.size w (W.ask w3 a)) := bvia HB2.out (bvia hb3 (alB _ _))
    obtain ⟨k0, k1, k2, k3, k4, k5, k6, k7, k8, k9, k10⟩ := RowIs.abox (RowIs.below (RowIs.below HX2.out hb3) (alB w3 (.cells (C.ask a) 25)))
    clear hb3
    go_wp2_with fail
    refine (decode_any l _ hl (hp.below HBZ.out)).mono ?_
    rintro e x1 ⟨rfl, hx1⟩
    have HBX : Aside (Below w.heap.size w (W.ask x1 (P.decA l))) := bvia HBZ.out (bvia hx1 (alB _ _))
    have HXX : Aside (RowIs (W.ask x1 (P.decA l)) x1.heap.size (C.ask (P.decA l))) := RowIs.new x1 _ _
    clear hx1
    by_cases hd : P.decE l = 0
    · obtain ⟨d1, d2⟩ := dec_back hd
      have HD1 := show Aside _ from d1
      have HD2 := show Aside _ from d2
      clear d1 d2
      rw [hd]
      clear hd
      go_wp2_with fail
      refine (encode_any (P.decA l) _ (hp.below HBX.out)).mono ?_
      rintro e x2 ⟨rfl, hx2⟩
      rw [HD1.out, HD2.out]
      go_wp2
      go_ret
      exact ⟨rfl, bvia HBX.out hx2⟩
    · have hz := dec_err hd
      have hd' : (P.decE l != 0) = true := by simpa using hd
      clear hd
      rw [hz]
      go_wp2
      go_ret
      exact ⟨rfl, (by have h := HBX.out; rw [hz] at h; exact h)⟩
  · have h0' : (P.askE a == 0) = false := by simpa using h0
    clear h0
    go_enter Tryd.func4, Tryd.ntmps4
    go_wp2_with fail
    refine (codeBegun_any _ (hp.below HB0.out)).mono ?_
    rintro e w1 ⟨rfl, hb1⟩
    have HB1 : Aside (Below w.heap.size w w1) := bvia HB0.out hb1
    obtain ⟨k0, k1, k2, k3, k4, k5, k6, k7, k8, k9, k10⟩ := RowIs.abox (RowIs.below HX0.out hb1)
    clear hb1
    go_wp2_with fail
    refine (encode_any a _ (hp.below HB1.out)).mono ?_
    rintro e w2 ⟨rfl, hb2⟩
    have HBZ : Aside (Below w.heap.size w w2) := bvia HB1.out hb2
    clear hb2 k0 k1 k2 k3 k4 k5 k6 k7 k8 k9 k10
    go_wp2_with fail
    refine (decode_any l _ hl (hp.below HBZ.out)).mono ?_
    rintro e x1 ⟨rfl, hx1⟩
    have HBX : Aside (Below w.heap.size w (W.ask x1 (P.decA l))) := bvia HBZ.out (bvia hx1 (alB _ _))
    have HXX : Aside (RowIs (W.ask x1 (P.decA l)) x1.heap.size (C.ask (P.decA l))) := RowIs.new x1 _ _
    clear hx1
    by_cases hd : P.decE l = 0
    · obtain ⟨d1, d2⟩ := dec_back hd
      have HD1 := show Aside _ from d1
      have HD2 := show Aside _ from d2
      clear d1 d2
      rw [hd]
      clear hd
      go_wp2_with fail
      refine (encode_any (P.decA l) _ (hp.below HBX.out)).mono ?_
      rintro e x2 ⟨rfl, hx2⟩
      rw [HD1.out, HD2.out]
      go_wp2
      go_ret
      exact ⟨rfl, bvia HBX.out hx2⟩
    · have hz := dec_err hd
      have hd' : (P.decE l != 0) = true := by simpa using hd
      clear hd
      rw [hz]
      go_wp2
      go_ret
      exact ⟨rfl, (by have h := HBX.out; rw [hz] at h; exact h)⟩

set_option maxRecDepth 4000 in
set_option maxHeartbeats 16000000 in
theorem codeTells_walk (a : Ask) (l : List UInt8) (w : World) (hp : PartsAt w) (hl : l.length ≤ 9223372036854775807) : Calls Tryd.prog 3 #[V.ask a, V.str l] w fun e w' => e = .returned (.bool true) ∧ Below w.heap.size w w' := by
  have HX0 : Aside (RowIs (W.ask w a) w.heap.size (C.ask a)) := RowIs.new w _ _
  have HB0 : Aside (Below w.heap.size w (W.ask w a)) := alB _ _
  have HS : Aside (P.decE l = P.askOfE l ∧ P.decA l = P.askOfA l) := dec_same l
  by_cases h0 : P.askE a = 0
  · have HE1 : Aside (P.encL a = P.bytes a) := by show _ = _; rw [P.encL, if_pos h0]
    have HE0 := show Aside _ from h0
    clear h0
    go_enter Tryd.func3, Tryd.ntmps3
    go_wp2_with fail
    refine (encode_any a _ (hp.below HB0.out)).mono ?_
    rintro e w1 ⟨rfl, hb1⟩
    have HB1 : Aside (Below w.heap.size w w1) := bvia HB0.out hb1
    have HX1 : Aside (RowIs w1 w.heap.size (C.ask a)) := RowIs.below HX0.out hb1
    clear hb1
    go_wp2_with fail
    refine (decode_any l _ hl (hp.below HB1.out)).mono ?_
    rintro e w2 ⟨rfl, hb2⟩
    have HB2 : Aside (Below w.heap.size w (W.ask w2 (P.decA l))) := bvia HB1.out (bvia hb2 (alB _ _))
    have HX2 : Aside (RowIs (W.ask w2 (P.decA l)) w.heap.size (C.ask a)) := RowIs.below (RowIs.below HX1.out hb2) (alB _ _)
    have HY2 : Aside (RowIs (W.ask w2 (P.decA l)) w2.heap.size (C.ask (P.decA l))) := RowIs.new w2 _ _
    obtain ⟨k0, k1, k2, k3, k4, k5, k6, k7, k8, k9, k10⟩ := RowIs.abox HX2.out
    clear hb2
    go_wp2_with fail
    refine (checkAsk_any a _).mono ?_
    rintro e w3 ⟨rfl, hb3⟩
    have HB3 : Aside (Below w.heap.size w w3) := bvia HB2.out hb3
    have HX3 : Aside (RowIs w3 w.heap.size (C.ask a)) := RowIs.below HX2.out hb3
    have HY3 : Aside (RowIs w3 w2.heap.size (C.ask (P.decA l))) := RowIs.below HY2.out hb3
    clear hb3 k0 k1 k2 k3 k4 k5 k6 k7 k8 k9 k10
    rw [HE0.out, HE1.out]
    obtain ⟨k0, k1, k2, k3, k4, k5, k6, k7, k8, k9, k10⟩ := RowIs.abox HX3.out
    go_wp2_with fail
    refine (askBytes_any a _ HE0.out).mono ?_
    rintro e w4 ⟨rfl, hb4⟩
    have HB4 : Aside (Below w.heap.size w w4) := bvia HB3.out hb4
    have HX4 : Aside (RowIs w4 w.heap.size (C.ask a)) := RowIs.below HX3.out hb4
    have HY4 : Aside (RowIs w4 w2.heap.size (C.ask (P.decA l))) := RowIs.below HY3.out hb4
    clear hb4 k0 k1 k2 k3 k4 k5 k6 k7 k8 k9 k10
    go_wp2_with fail
    refine (askOf_any l _ hl).mono ?_
    rintro e w5 ⟨rfl, hb5⟩
    rw [← HS.out.1, ← HS.out.2]
    have HB5 : Aside (Below w.heap.size w (W.ask w5 (P.decA l))) := bvia HB4.out (bvia hb5 (alB _ _))
    have HX5 : Aside (RowIs (W.ask w5 (P.decA l)) w.heap.size (C.ask a)) := RowIs.below (RowIs.below HX4.out hb5) (alB _ _)
    have HY5 : Aside (RowIs (W.ask w5 (P.decA l)) w2.heap.size (C.ask (P.decA l))) := RowIs.below (RowIs.below HY4.out hb5) (alB _ _)
    have HZ5 : Aside (RowIs (W.ask w5 (P.decA l)) w5.heap.size (C.ask (P.decA l))) := RowIs.new w5 _ _
    clear hb5
    go_wp2_with fail
    refine (codeBegun_any _ (hp.below HB5.out)).mono ?_
    rintro e w6 ⟨rfl, hb6⟩
    have HB6 : Aside (Below w.heap.size w w6) := bvia HB5.out hb6
    have HX6 : Aside (RowIs w6 w.heap.size (C.ask a)) := RowIs.below HX5.out hb6
    have HY6 : Aside (RowIs w6 w2.heap.size (C.ask (P.decA l))) := RowIs.below HY5.out hb6
    have HZ6 : Aside (RowIs w6 w5.heap.size (C.ask (P.decA l))) := RowIs.below HZ5.out hb6
    clear hb6
    obtain ⟨k0, k1, k2, k3, k4, k5, k6, k7, k8, k9, k10⟩ := RowIs.abox HX6.out
    go_wp2_with fail
    refine (codeCheck_any a _ (hp.below HB6.out)).mono ?_
    rintro e w7 ⟨rfl, hb7⟩
    rw [HE0.out]
    obtain ⟨y0, y1, y2, y3, y4, y5, y6, y7, y8, y9, y10⟩ := RowIs.abox (RowIs.below HY6.out hb7)
    obtain ⟨z0, z1, z2, z3, z4, z5, z6, z7, z8, z9, z10⟩ := RowIs.abox (RowIs.below HZ6.out hb7)
    have HB7 : Aside (Below w.heap.size w w7) := bvia HB6.out hb7
    clear hb7 k0 k1 k2 k3 k4 k5 k6 k7 k8 k9 k10
    go_wp2
    go_ret
    exact ⟨rfl, HB7.out⟩
  · have HE1 : Aside (P.encL a = []) := by show _ = _; rw [P.encL, if_neg h0]
    have h0' : (P.askE a == 0) = false := by simpa using h0
    clear h0
    go_enter Tryd.func3, Tryd.ntmps3
    go_wp2_with fail
    refine (encode_any a _ (hp.below HB0.out)).mono ?_
    rintro e w1 ⟨rfl, hb1⟩
    have HB1 : Aside (Below w.heap.size w w1) := bvia HB0.out hb1
    have HX1 : Aside (RowIs w1 w.heap.size (C.ask a)) := RowIs.below HX0.out hb1
    clear hb1
    go_wp2_with fail
    refine (decode_any l _ hl (hp.below HB1.out)).mono ?_
    rintro e w2 ⟨rfl, hb2⟩
    have HB2 : Aside (Below w.heap.size w (W.ask w2 (P.decA l))) := bvia HB1.out (bvia hb2 (alB _ _))
    have HX2 : Aside (RowIs (W.ask w2 (P.decA l)) w.heap.size (C.ask a)) := RowIs.below (RowIs.below HX1.out hb2) (alB _ _)
    have HY2 : Aside (RowIs (W.ask w2 (P.decA l)) w2.heap.size (C.ask (P.decA l))) := RowIs.new w2 _ _
    obtain ⟨k0, k1, k2, k3, k4, k5, k6, k7, k8, k9, k10⟩ := RowIs.abox HX2.out
    clear hb2
    go_wp2_with fail
    refine (checkAsk_any a _).mono ?_
    rintro e w3 ⟨rfl, hb3⟩
    have HB3 : Aside (Below w.heap.size w w3) := bvia HB2.out hb3
    have HX3 : Aside (RowIs w3 w.heap.size (C.ask a)) := RowIs.below HX2.out hb3
    have HY3 : Aside (RowIs w3 w2.heap.size (C.ask (P.decA l))) := RowIs.below HY2.out hb3
    clear hb3 k0 k1 k2 k3 k4 k5 k6 k7 k8 k9 k10
    rw [HE1.out]
    go_wp2_with fail
    refine (askOf_any l _ hl).mono ?_
    rintro e w5 ⟨rfl, hb5⟩
    rw [← HS.out.1, ← HS.out.2]
    have HB5 : Aside (Below w.heap.size w (W.ask w5 (P.decA l))) := bvia HB3.out (bvia hb5 (alB _ _))
    have HX5 : Aside (RowIs (W.ask w5 (P.decA l)) w.heap.size (C.ask a)) := RowIs.below (RowIs.below HX3.out hb5) (alB _ _)
    have HY5 : Aside (RowIs (W.ask w5 (P.decA l)) w2.heap.size (C.ask (P.decA l))) := RowIs.below (RowIs.below HY3.out hb5) (alB _ _)
    have HZ5 : Aside (RowIs (W.ask w5 (P.decA l)) w5.heap.size (C.ask (P.decA l))) := RowIs.new w5 _ _
    clear hb5
    go_wp2_with fail
    refine (codeBegun_any _ (hp.below HB5.out)).mono ?_
    rintro e w6 ⟨rfl, hb6⟩
    have HB6 : Aside (Below w.heap.size w w6) := bvia HB5.out hb6
    have HX6 : Aside (RowIs w6 w.heap.size (C.ask a)) := RowIs.below HX5.out hb6
    have HY6 : Aside (RowIs w6 w2.heap.size (C.ask (P.decA l))) := RowIs.below HY5.out hb6
    have HZ6 : Aside (RowIs w6 w5.heap.size (C.ask (P.decA l))) := RowIs.below HZ5.out hb6
    clear hb6
    obtain ⟨k0, k1, k2, k3, k4, k5, k6, k7, k8, k9, k10⟩ := RowIs.abox HX6.out
    go_wp2_with fail
    refine (codeCheck_any a _ (hp.below HB6.out)).mono ?_
    rintro e w7 ⟨rfl, hb7⟩
    obtain ⟨y0, y1, y2, y3, y4, y5, y6, y7, y8, y9, y10⟩ := RowIs.abox (RowIs.below HY6.out hb7)
    obtain ⟨z0, z1, z2, z3, z4, z5, z6, z7, z8, z9, z10⟩ := RowIs.abox (RowIs.below HZ6.out hb7)
    have HB7 : Aside (Below w.heap.size w w7) := bvia HB6.out hb7
    clear hb7 k0 k1 k2 k3 k4 k5 k6 k7 k8 k9 k10
    go_wp2
    go_ret
    exact ⟨rfl, HB7.out⟩

end Go.Proofs.YtfiaeokdcbmedafDoor
