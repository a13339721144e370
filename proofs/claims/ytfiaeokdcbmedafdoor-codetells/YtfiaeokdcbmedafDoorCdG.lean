/- Walks of Encode, Decode. -/
import Derived.Test.YtfiaeokdcbmedafDoorCdF
namespace Go.Proofs.YtfiaeokdcbmedafDoor
open Go.RowKit
set_option linter.unusedSimpArgs false
set_option linter.unusedVariables false

def P.encL (a : Ask) : List UInt8 := if P.askE a = 0 then P.bytes a else []
abbrev V.str (l : List UInt8) : Value := .string ⟨l.toArray⟩

set_option maxRecDepth 4000 in
set_option maxHeartbeats 2000000 in
theorem encode_any (a : Ask) (w : World) (hp : PartsAt w) : Calls Tryd.prog 5 #[V.ask a] w fun e w' => e = .returned (.tuple #[V.str (P.encL a), .int .i64 (P.askE a)]) ∧ Below w.heap.size w w' := by
  have hB0 : Below w.heap.size w (W.ask w a) := alB _ _
  by_cases h0 : P.askE a = 0
  · have HL : Aside (P.encL a = P.bytes a) := by show _ = _; rw [P.encL, if_pos h0]
    have HE : Aside (P.askE a = 0) := h0
    clear h0
    go_enter Tryd.func5, Tryd.ntmps5
    go_wp2_with fail
    refine (codeCheck_any a _ (hp.below hB0)).mono ?_
    rintro e w1 ⟨rfl, hb1⟩
    rw [HE.out]
    have hB1 : Below w.heap.size w w1 := bvia hB0 hb1
    obtain ⟨k0, k1, k2, k3, k4, k5, k6, k7, k8, k9, k10⟩ := ((RowIs.new w (C.ask a) 25).below hb1).abox
    clear hb1
    go_wp2_with fail
    refine (write_any a _ (hp.below hB1)).mono ?_
    rintro e w2 ⟨rfl, hb2⟩
    go_wp2
    go_ret2
    exact ⟨by rw [HL.out, HE.out]; rfl, bvia hB1 hb2⟩
  · have HL : Aside (P.encL a = []) := by show _ = _; rw [P.encL, if_neg h0]
    have h0' : (P.askE a != 0) = true := by simpa using h0
    clear h0
    go_enter Tryd.func5, Tryd.ntmps5
    go_wp2_with fail
    refine (codeCheck_any a _ (hp.below hB0)).mono ?_
    rintro e w1 ⟨rfl, hb1⟩
    go_wp2
    go_ret2
    exact ⟨by rw [HL.out]; rfl, bvia hB0 hb1⟩

def P.decE (l : List UInt8) : Int := if P.btw (P.kindOf l) 1 8 = true ∧ P.bytes (P.readA l) = l then P.askE (P.readA l) else 1
def P.decA (l : List UInt8) : Ask := if P.decE l = 0 then P.readA l else P.zeroA

theorem str_ne {a b : List UInt8} (h : a ≠ b) : ((ByteArray.mk a.toArray).toList == (ByteArray.mk b.toArray).toList) = false := by
  rw [beq_eq_false_iff_ne]
  intro e
  apply h
  rw [ByteArray.toList_eq, ByteArray.toList_eq] at e
  simpa using e

theorem dec_no {l : List UInt8} (h : ¬ (P.btw (P.kindOf l) 1 8 = true ∧ P.bytes (P.readA l) = l)) : P.decE l = 1 ∧ P.decA l = P.zeroA := by
  have e : P.decE l = 1 := by rw [P.decE, if_neg h]
  exact ⟨e, by rw [P.decA, e, if_neg (by decide)]⟩

set_option maxRecDepth 4000 in
set_option maxHeartbeats 4000000 in
theorem decode_any (l : List UInt8) (w : World) (hl : l.length ≤ 9223372036854775807) (hp : PartsAt w) : Calls Tryd.prog 6 #[V.str l] w fun e w' => e = .returned (.tuple #[V.ask (P.decA l), .int .i64 (P.decE l)]) ∧ Below w.heap.size w w' := by
  have hkd : (P.readA l).kind = P.kindOf l := rfl
  have HKD : Aside ((P.readA l).kind = P.kindOf l) := hkd
  clear hkd
  have hB0 : Below w.heap.size w (w.alloc (.cells (C.ask P.zeroA) 25)) := alB _ _
  by_cases h1 : P.btw (P.readA l).kind 1 8 = true
  · by_cases h2 : P.bytes (P.readA l) = l
    · have HD : Aside (P.decE l = P.askE (P.readA l)) := by show _ = _; rw [P.decE, if_pos ⟨by rw [← HKD.out]; exact h1, h2⟩]
      have H2 : Aside (P.bytes (P.readA l) = l) := h2
      clear h2
      by_cases h0 : P.askE (P.readA l) = 0
      · have HV : Aside (P.decA l = P.readA l ∧ P.decE l = 0) := by show _ ∧ _; exact ⟨by rw [P.decA, HD.out, if_pos h0], by rw [HD.out, h0]⟩
        have HE : Aside (P.askE (P.readA l) = 0) := h0
        clear h0
        go_enter Tryd.func6, Tryd.ntmps6
        go_wp2_with fail
        refine (read_any l _ hl (hp.below hB0)).mono ?_
        rintro e w1 ⟨rfl, hb1⟩
        have hB1 : Below w.heap.size w w1 := bvia hB0 hb1
        have hr1 : RowIs w1 w.heap.size (C.ask P.zeroA) := (RowIs.new w (C.ask P.zeroA) 25).below hb1
        clear hb1
        have HR2 : Aside (RowIs (W.ask w1 (P.readA l)) w.heap.size (C.ask P.zeroA)) := hr1.below (alB _ _)
        have HA2 : Aside (RowIs (W.ask w1 (P.readA l)) w1.heap.size (C.ask (P.readA l))) := RowIs.new w1 _ _
        have HB2 : Aside (Below w.heap.size w (W.ask w1 (P.readA l))) := bvia hB1 (alB _ _)
        have hlt : w.heap.size ≤ w1.heap.size := hB1.size
        clear hr1 hB1
        generalize hA : P.readA l = A at *
        go_wp2_with fail
        refine (isKind_any _ _).mono ?_
        rintro e x1 ⟨rfl, rfl⟩
        rw [h1]
        go_wp2_with fail
        refine (write_any A _ (hp.below HB2.out)).mono ?_
        rintro e w3 ⟨rfl, hb3⟩
        have HR3 : Aside (RowIs w3 w.heap.size (C.ask P.zeroA)) := HR2.out.below hb3
        have HA3 : Aside (RowIs w3 w1.heap.size (C.ask A)) := HA2.out.below hb3
        have HB3 : Aside (Below w.heap.size w w3) := bvia HB2.out hb3
        clear hb3
        obtain ⟨k0, k1, k2, k3, k4, k5, k6, k7, k8, k9, k10⟩ := HA3.out.abox
        rw [H2.out]
        go_wp2_with fail
        refine (codeCheck_any A _ (hp.below HB3.out)).mono ?_
        rintro e w4 ⟨rfl, hb4⟩
        have HR4 : Aside (RowIs w4 w.heap.size (C.ask P.zeroA)) := HR3.out.below hb4
        have HB4 : Aside (Below w.heap.size w w4) := bvia HB3.out hb4
        rw [HE.out]
        obtain ⟨y0, y1, y2, y3, y4, y5, y6, y7, y8, y9, y10⟩ := (HA3.out.below hb4).abox
        clear hb4 k0 k1 k2 k3 k4 k5 k6 k7 k8 k9 k10
        go_wp2_with (refine wpList_stC rfl 25 _ _ (by rfl) w.heap.size (C.ask P.zeroA) (C.ask A) Tryd.sizeAsk (by rfl) (by rfl) HR4.out rfl (ask_one _) ?_; intro w9 hr9 hg9)
        refine bodyPost_ret (v := .tuple #[V.ask A, .int .i64 0]) (res2 Tryd.results6 hr9 _ (by rfl) (by rfl) Tryd.underlying25 rfl Tryd.sizeAsk) rfl ?_
        exact ⟨by rw [HV.out.1, HV.out.2], below_gr HB4.out HB4.out.size hg9 (Nat.le_refl _)⟩
      · have HV : Aside (P.decA l = P.zeroA) := by show _ = _; rw [P.decA, HD.out, if_neg h0]
        have h0' : (P.askE (P.readA l) != 0) = true := by simpa using h0
        clear h0
        go_enter Tryd.func6, Tryd.ntmps6
        go_wp2_with fail
        refine (read_any l _ hl (hp.below hB0)).mono ?_
        rintro e w1 ⟨rfl, hb1⟩
        have hB1 : Below w.heap.size w w1 := bvia hB0 hb1
        have hr1 : RowIs w1 w.heap.size (C.ask P.zeroA) := (RowIs.new w (C.ask P.zeroA) 25).below hb1
        clear hb1
        have HR2 : Aside (RowIs (W.ask w1 (P.readA l)) w.heap.size (C.ask P.zeroA)) := hr1.below (alB _ _)
        have HA2 : Aside (RowIs (W.ask w1 (P.readA l)) w1.heap.size (C.ask (P.readA l))) := RowIs.new w1 _ _
        have HB2 : Aside (Below w.heap.size w (W.ask w1 (P.readA l))) := bvia hB1 (alB _ _)
        have hlt : w.heap.size ≤ w1.heap.size := hB1.size
        clear hr1 hB1
        generalize hA : P.readA l = A at *
        go_wp2_with fail
        refine (isKind_any _ _).mono ?_
        rintro e x1 ⟨rfl, rfl⟩
        rw [h1]
        go_wp2_with fail
        refine (write_any A _ (hp.below HB2.out)).mono ?_
        rintro e w3 ⟨rfl, hb3⟩
        have HR3 : Aside (RowIs w3 w.heap.size (C.ask P.zeroA)) := HR2.out.below hb3
        have HA3 : Aside (RowIs w3 w1.heap.size (C.ask A)) := HA2.out.below hb3
        have HB3 : Aside (Below w.heap.size w w3) := bvia HB2.out hb3
        clear hb3
        obtain ⟨k0, k1, k2, k3, k4, k5, k6, k7, k8, k9, k10⟩ := HA3.out.abox
        rw [H2.out]
        go_wp2_with fail
        refine (codeCheck_any A _ (hp.below HB3.out)).mono ?_
        rintro e w4 ⟨rfl, hb4⟩
        have HR4 : Aside (RowIs w4 w.heap.size (C.ask P.zeroA)) := HR3.out.below hb4
        have HB4 : Aside (Below w.heap.size w w4) := bvia HB3.out hb4
        clear hb4 k0 k1 k2 k3 k4 k5 k6 k7 k8 k9 k10
        go_wp2_with (refine wpList_stC rfl 25 _ _ (by rfl) w.heap.size (C.ask P.zeroA) (C.ask P.zeroA) Tryd.sizeAsk (by rfl) (by rfl) HR4.out rfl (ask_one _) ?_; intro w9 hr9 hg9)
        refine bodyPost_ret (v := .tuple #[V.ask P.zeroA, .int .i64 (P.askE A)]) (res2 Tryd.results6 hr9 _ (by rfl) (by rfl) Tryd.underlying25 rfl Tryd.sizeAsk) rfl ?_
        exact ⟨by rw [HV.out, HD.out], below_gr HB4.out HB4.out.size hg9 (Nat.le_refl _)⟩
    · have HV : Aside (P.decE l = 1 ∧ P.decA l = P.zeroA) := dec_no (fun h => h2 h.2)
      have hs : (P.bytes (P.readA l) == l) = false := by simpa using h2
      clear h2
      go_enter Tryd.func6, Tryd.ntmps6
      go_wp2_with fail
      refine (read_any l _ hl (hp.below hB0)).mono ?_
      rintro e w1 ⟨rfl, hb1⟩
      have hB1 : Below w.heap.size w w1 := bvia hB0 hb1
      have hr1 : RowIs w1 w.heap.size (C.ask P.zeroA) := (RowIs.new w (C.ask P.zeroA) 25).below hb1
      clear hb1
      have HR2 : Aside (RowIs (W.ask w1 (P.readA l)) w.heap.size (C.ask P.zeroA)) := hr1.below (alB _ _)
      have HA2 : Aside (RowIs (W.ask w1 (P.readA l)) w1.heap.size (C.ask (P.readA l))) := RowIs.new w1 _ _
      have HB2 : Aside (Below w.heap.size w (W.ask w1 (P.readA l))) := bvia hB1 (alB _ _)
      have hlt : w.heap.size ≤ w1.heap.size := hB1.size
      clear hr1 hB1
      generalize hA : P.readA l = A at *
      go_wp2_with fail
      refine (isKind_any _ _).mono ?_
      rintro e x1 ⟨rfl, rfl⟩
      rw [h1]
      go_wp2_with fail
      refine (write_any A _ (hp.below HB2.out)).mono ?_
      rintro e w3 ⟨rfl, hb3⟩
      have HR3 : Aside (RowIs w3 w.heap.size (C.ask P.zeroA)) := HR2.out.below hb3
      have HA3 : Aside (RowIs w3 w1.heap.size (C.ask A)) := HA2.out.below hb3
      have HB3 : Aside (Below w.heap.size w w3) := bvia HB2.out hb3
      clear hb3
      go_wp2_with (refine wpList_stC rfl 25 _ _ (by rfl) w.heap.size (C.ask P.zeroA) (C.ask P.zeroA) Tryd.sizeAsk (by rfl) (by rfl) HR3.out rfl (ask_one _) ?_; intro w9 hr9 hg9)
      refine bodyPost_ret (v := .tuple #[V.ask P.zeroA, .int .i64 1]) (res2 Tryd.results6 hr9 _ (by rfl) (by rfl) Tryd.underlying25 rfl Tryd.sizeAsk) rfl ?_
      exact ⟨by rw [HV.out.1, HV.out.2], below_gr HB3.out HB3.out.size hg9 (Nat.le_refl _)⟩
  · have HV : Aside (P.decE l = 1 ∧ P.decA l = P.zeroA) := dec_no (fun h => h1 (by rw [HKD.out]; exact h.1))
    replace h1 : P.btw (P.readA l).kind 1 8 = false := by simpa using h1
    go_enter Tryd.func6, Tryd.ntmps6
    go_wp2_with fail
    refine (read_any l _ hl (hp.below hB0)).mono ?_
    rintro e w1 ⟨rfl, hb1⟩
    have hB1 : Below w.heap.size w w1 := bvia hB0 hb1
    have hr1 : RowIs w1 w.heap.size (C.ask P.zeroA) := (RowIs.new w (C.ask P.zeroA) 25).below hb1
    clear hb1
    have HR2 : Aside (RowIs (W.ask w1 (P.readA l)) w.heap.size (C.ask P.zeroA)) := hr1.below (alB _ _)
    have HA2 : Aside (RowIs (W.ask w1 (P.readA l)) w1.heap.size (C.ask (P.readA l))) := RowIs.new w1 _ _
    have HB2 : Aside (Below w.heap.size w (W.ask w1 (P.readA l))) := bvia hB1 (alB _ _)
    have hlt : w.heap.size ≤ w1.heap.size := hB1.size
    clear hr1 hB1
    generalize hA : P.readA l = A at *
    go_wp2_with fail
    refine (isKind_any _ _).mono ?_
    rintro e x1 ⟨rfl, rfl⟩
    rw [h1]
    go_wp2_with (refine wpList_stC rfl 25 _ _ (by rfl) w.heap.size (C.ask P.zeroA) (C.ask P.zeroA) Tryd.sizeAsk (by rfl) (by rfl) HR2.out rfl (ask_one _) ?_; intro w9 hr9 hg9)
    refine bodyPost_ret (v := .tuple #[V.ask P.zeroA, .int .i64 1]) (res2 Tryd.results6 hr9 _ (by rfl) (by rfl) Tryd.underlying25 rfl Tryd.sizeAsk) rfl ?_
    exact ⟨by rw [HV.out.1, HV.out.2], below_gr HB2.out HB2.out.size hg9 (Nat.le_refl _)⟩

end Go.Proofs.YtfiaeokdcbmedafDoor
