/- Walks of read's literal, read. -/
import Derived.Test.YtfiaeokdcbmedafDoorCdC
import Derived.Test.YtfiaeokdcbmedafDoorCdR
namespace Go.Proofs.YtfiaeokdcbmedafDoor
open Go.RowKit
set_option linter.unusedSimpArgs false
set_option linter.unusedVariables false

/-- The bytes of a string, taken and dropped. -/
theorem extract_to (l : List UInt8) (m : Nat) : (ByteArray.mk l.toArray).extract 0 m = ⟨(l.take m).toArray⟩ := by
  apply ByteArray.ext
  apply Array.toList_inj.1
  rw [Lib.extract_data]
  simp
theorem extract_from (l : List UInt8) (m n : Nat) (hn : l.length ≤ n) : (ByteArray.mk l.toArray).extract m n = ⟨(l.drop m).toArray⟩ := by
  apply ByteArray.ext
  apply Array.toList_inj.1
  rw [Lib.extract_data]
  simp
  exact (List.take_of_length_le (by simp; omega))

set_option maxHeartbeats 2000000 in
theorem next_any (l : List UInt8) (m : Nat) (b : Nat) (w : World) (hm : m ≤ 4) (hl : l.length ≤ 9223372036854775807) (hc : w.cell? ⟨b, 0, none⟩ = some (.string ⟨l.toArray⟩)) (hf : w.frozen? ⟨b, 0, none⟩ = false) :
    Calls Tryd.prog 26 #[.int .i64 m, .pointer (some ⟨b, 0, none⟩)] w fun e w' => e = .returned (.int .i64 (P.wh (l.take m))) ∧ w' = w.setCell ⟨b, 0, none⟩ (.string ⟨(l.drop m).toArray⟩) := by
  have hr : (min (m : Int) (l.length : Int)).toNat = min m l.length := by omega
  have h1 : (ByteArray.mk l.toArray).extract 0 (min (m : Int) (l.length : Int)).toNat = ⟨(l.take m).toArray⟩ := by
    rw [hr, extract_to]
    congr 2
    rw [List.take_eq_take_iff]; omega
  have h2 : (ByteArray.mk l.toArray).extract (min (m : Int) (l.length : Int)).toNat l.length = ⟨(l.drop m).toArray⟩ := by
    rw [hr, extract_from _ _ _ (Nat.le_refl _)]
    congr 2
    by_cases h : m ≤ l.length
    · rw [Nat.min_eq_left h]
    · rw [Nat.min_eq_right (by omega), List.drop_of_length_le (Nat.le_refl _), List.drop_of_length_le (by omega)]
  clear hr
  go_enter Tryd.func26, Tryd.ntmps26
  go_wp2_with fail
  refine (whole_any (l.take m) _ (by simp; omega)).mono ?_
  rintro e w1 ⟨rfl, rfl⟩
  go_wp2
  go_ret
  exact ⟨rfl, rfl⟩

/-- The parts that are read, one by one. -/
def P.set (n : Nat → Int) (p : Nat) (v : Int) : Nat → Int := fun j => if j = p then v else n j
def P.readN : List Nat → List UInt8 → (Nat → Int) → (Nat → Int)
  | [], _, n => n
  | p :: ps, l, n => P.readN ps (l.drop (P.size p)) (P.set n p (P.wh (l.take (P.size p))))
def P.gath (k num : Int) (n : Nat → Int) : Ask := ⟨num, k, n 0, n 1, n 6 != 0, n 2, n 3, n 4, n 5, n 7, n 8⟩
def P.kindOf (l : List UInt8) : Int := P.wh (l.take 1)
def P.numberOf (l : List UInt8) : Int := P.wh (l.tail.take 2)
def P.readA (l : List UInt8) : Ask := P.gath (P.kindOf l) (P.numberOf l) (P.readN (P.names (P.kindOf l)) (l.drop 3) (fun _ => 0))

theorem next1_any (l : List UInt8) (b : Nat) (w : World) (hl : l.length ≤ 9223372036854775807) (hc : w.cell? ⟨b, 0, none⟩ = some (.string ⟨l.toArray⟩)) (hf : w.frozen? ⟨b, 0, none⟩ = false) :
    Calls Tryd.prog 26 #[.int .i64 1, .pointer (some ⟨b, 0, none⟩)] w fun e w' => e = .returned (.int .i64 (P.kindOf l)) ∧ w' = w.setCell ⟨b, 0, none⟩ (.string ⟨(l.drop 1).toArray⟩) := next_any l 1 b w (by decide) hl hc hf
theorem next2_any (l : List UInt8) (b : Nat) (w : World) (hl : l.length ≤ 9223372036854775807) (hc : w.cell? ⟨b, 0, none⟩ = some (.string ⟨l.toArray⟩)) (hf : w.frozen? ⟨b, 0, none⟩ = false) :
    Calls Tryd.prog 26 #[.int .i64 2, .pointer (some ⟨b, 0, none⟩)] w fun e w' => e = .returned (.int .i64 (P.wh (l.take 2))) ∧ w' = w.setCell ⟨b, 0, none⟩ (.string ⟨(l.drop 2).toArray⟩) := next_any l 2 b w (by decide) hl hc hf

set_option maxRecDepth 4000 in
set_option maxHeartbeats 4000000 in
theorem read_any (l : List UInt8) (w : World) (hl : l.length ≤ 9223372036854775807) (hp : PartsAt w) : Calls Tryd.prog 13 #[.string ⟨l.toArray⟩] w fun e w' => e = .returned (V.ask (P.readA l)) ∧ Below w.heap.size w w' := by
  go_enter Tryd.func13, Tryd.ntmps13
  go_wp2_with fail
  refine (next1_any l w.heap.size _ hl (by go_simp) (by go_simp)).mono ?_
  rintro e w1 ⟨rfl, rfl⟩
  go_wp2_with fail
  refine (next2_any (l.drop 1) w.heap.size _ (by simp; omega) (by go_simp) (by go_simp)).mono ?_
  rintro e w2 ⟨rfl, rfl⟩
  go_wp2_with fail
  refine (named_any (P.kindOf l) _).mono ?_
  rintro e w4 ⟨ao, rfl, hn4, hb4, hg4⟩
  have hB4 : Below w.heap.size w w4 := bvia (by go_grown) hb4
  have c0 : w4.cell? ⟨w.heap.size, 0, none⟩ = some (.string ⟨(l.drop 3).toArray⟩) := cellIn hb4 (by go_simp)
  have f0 : w4.frozen? ⟨w.heap.size, 0, none⟩ = false := by rw [hb4.frozen (p := ⟨w.heap.size, 0, none⟩) (by simp; omega)]; go_simp
  have hcn : ∀ j, j < 9 → w4.cell? ⟨w.heap.size + 1 + 1, j, none⟩ = some (.int .i64 0) ∧ w4.frozen? ⟨w.heap.size + 1 + 1, j, none⟩ = false := by
    intro j hj
    refine ⟨cellIn hb4 ?_, ?_⟩
    · have h := heap_alloc_new ((w.alloc (.cells #[.string ⟨(l.drop 3).toArray⟩] 9)).alloc (.cells #[.int .i64 0, .int .i64 0, .int .i64 0, .int .i64 0, .bool false, .int .i64 0, .int .i64 0, .int .i64 0, .int .i64 0, .int .i64 0, .int .i64 0] 25)) (.cells #[.int .i64 0, .int .i64 0, .int .i64 0, .int .i64 0, .int .i64 0, .int .i64 0, .int .i64 0, .int .i64 0, .int .i64 0] 45)
      simp only [World.size_alloc] at h
      exact nums_cell (fun _ => 0) h j hj
    · rw [hb4.frozen (p := ⟨w.heap.size + 1 + 1, j, none⟩) (by simp)]; go_simp
  have HCN := show Aside _ from hcn
  have hP4 : PartsAt w4 := hp.below hB4
  have hr4 : RowIs w4 (w.heap.size + 1) (C.ask P.zeroA) := by
    have h := RowIs.new (w.alloc (.cells #[.string ⟨(l.drop 3).toArray⟩] 9)) (C.ask P.zeroA) 25
    rw [World.size_alloc] at h
    exact (h.below ((Below.refl _ _).alloc (Nat.le_refl _) _)).below hb4
  have HR4 := show Aside _ from hr4
  clear hr4
  have hsz : w.heap.size + 1 + 1 + 1 ≤ w4.heap.size := by have := hb4.size; simpa using this
  have hg : ∀ g, ao = some ⟨g, 0, none⟩ → w.heap.size + 1 + 1 + 1 ≤ g := fun g h => by have := hg4 g h; simpa using this
  have HG := show Aside _ from hg
  have HE : Aside (P.readA l = P.gath (P.kindOf l) (P.numberOf l) (P.readN (P.names (P.kindOf l)) (l.drop 3) (fun _ => 0))) := rfl
  have hnl := names_len (P.kindOf l)
  have HIN : Aside (∀ p ∈ P.names (P.kindOf l), p < 9) := fun p hp => names_lt hp
  generalize hps : P.names (P.kindOf l) = ps at *
  have HN4 := show Aside (NatsB w4 ao ps) from hn4
  clear hcn hg hg4 hn4 hps hb4
  go_wp2
  go_loopg [17] ps.length (fun g i wr => ∃ (k : Nat) (l' : List UInt8) (n' : Nat → Int), k ≤ ps.length ∧ g = ps.length - k ∧ i = .int .i64 k ∧ wr.cell? ⟨w.heap.size, 0, none⟩ = some (.string ⟨l'.toArray⟩) ∧ wr.frozen? ⟨w.heap.size, 0, none⟩ = false ∧ (∀ j, j < 9 → wr.cell? ⟨w.heap.size + 1 + 1, j, none⟩ = some (.int .i64 (n' j)) ∧ wr.frozen? ⟨w.heap.size + 1 + 1, j, none⟩ = false)
    ∧ P.readN (ps.drop k) l' n' = P.readN ps (l.drop 3) (fun _ => 0) ∧ l'.length ≤ 9223372036854775807 ∧ NatsB wr ao ps ∧ RowIs wr (w.heap.size + 1) (C.ask P.zeroA) ∧ Below w.heap.size w wr ∧ w.heap.size + 1 + 1 + 1 ≤ wr.heap.size)
  case atStart => exact ⟨0, _, _, Nat.zero_le _, rfl, rfl, c0, f0, HCN.out, rfl, by simp; omega, HN4.out, HR4.out, hB4, hsz⟩
  case round =>
    obtain ⟨k, l', n', hk, rfl, rfl, d0, g0, hcn, hR, hl', hN, hr, hB, hS⟩ := hrel
    have HCN2 := show Aside _ from hcn
    have HR := show Aside (P.readN (ps.drop k) l' n' = P.readN ps (l.drop 3) (fun _ => 0)) from hR
    have HN := show Aside (NatsB wr ao ps) from hN
    have HRW := show Aside (RowIs wr (w.heap.size + 1) (C.ask P.zeroA)) from hr
    clear hcn hR hN c0 f0 hr
    by_cases hlt : k < ps.length
    · obtain ⟨b, off, x, hao, hbw, hd, hx, hc0⟩ := NatsAt.get (HN.out.at (by simp only [maxLen]; omega)) (Below.refl _ _) k hlt
      subst hao
      have hx9 : x < 9 := HIN.out x (by rw [← hx]; exact List.getElem_mem hlt)
      have HD : Aside (ps.drop k = x :: ps.drop (k + 1)) := hd
      have hP := hp.below hB
      have c2 : wr.cell? ⟨0, x * 2, none⟩ = some (.int .i64 (P.size x)) := hP.size x hx9
      have x1 : (x : Int) < 9 := by omega
      have x0 : (0 : Int) ≤ (x : Int) := by omega
      have HX9 : Aside (x < 9) := hx9
      obtain ⟨cn, fn⟩ := HCN2.out x hx9
      clear hx hd hP
      go_wp2_with fail
      refine (next_any l' (P.size x) w.heap.size _ (size_le x) hl' (by go_simp) (by go_simp)).mono ?_
      rintro e w5 ⟨rfl, rfl⟩
      have q0 : ((wr.setCell ⟨w.heap.size, 0, none⟩ (.string ⟨(l'.drop (P.size x)).toArray⟩)).setCell ⟨w.heap.size + 1 + 1, x, none⟩ (.int .i64 (P.wh (l'.take (P.size x))))).cell? ⟨w.heap.size, 0, none⟩ = some (.string ⟨(l'.drop (P.size x)).toArray⟩) := by go_simp
      have qf : ((wr.setCell ⟨w.heap.size, 0, none⟩ (.string ⟨(l'.drop (P.size x)).toArray⟩)).setCell ⟨w.heap.size + 1 + 1, x, none⟩ (.int .i64 (P.wh (l'.take (P.size x))))).frozen? ⟨w.heap.size, 0, none⟩ = false := by go_simp
      have qn : ∀ j, j < 9 → ((wr.setCell ⟨w.heap.size, 0, none⟩ (.string ⟨(l'.drop (P.size x)).toArray⟩)).setCell ⟨w.heap.size + 1 + 1, x, none⟩ (.int .i64 (P.wh (l'.take (P.size x))))).cell? ⟨w.heap.size + 1 + 1, j, none⟩ = some (.int .i64 (P.set n' x (P.wh (l'.take (P.size x))) j)) ∧ ((wr.setCell ⟨w.heap.size, 0, none⟩ (.string ⟨(l'.drop (P.size x)).toArray⟩)).setCell ⟨w.heap.size + 1 + 1, x, none⟩ (.int .i64 (P.wh (l'.take (P.size x))))).frozen? ⟨w.heap.size + 1 + 1, j, none⟩ = false := by
        intro j hj
        obtain ⟨cj, fj⟩ := HCN2.out j hj
        by_cases e : j = x
        · subst e
          refine ⟨?_, by go_simp⟩
          rw [show P.set n' j (P.wh (l'.take (P.size j))) j = P.wh (l'.take (P.size j)) by simp [P.set]]
          go_simp
        · refine ⟨?_, by go_simp⟩
          rw [show P.set n' x (P.wh (l'.take (P.size x))) j = n' j by simp [P.set, e]]
          go_simp
      have hR2 : P.readN (ps.drop (k + 1)) (l'.drop (P.size x)) (P.set n' x (P.wh (l'.take (P.size x)))) = P.readN ps (l.drop 3) (fun _ => 0) := by rw [← HR.out, HD.out]; rfl
      have hN2 : NatsB ((wr.setCell ⟨w.heap.size, 0, none⟩ (.string ⟨(l'.drop (P.size x)).toArray⟩)).setCell ⟨w.heap.size + 1 + 1, x, none⟩ (.int .i64 (P.wh (l'.take (P.size x))))) (some ⟨b, off, none⟩) ps :=
        (HN.out.set (fun g h => by have := HG.out g h; omega)).set (fun g h => by have := HG.out g h; omega)
      have hB2 : Below w.heap.size w ((wr.setCell ⟨w.heap.size, 0, none⟩ (.string ⟨(l'.drop (P.size x)).toArray⟩)).setCell ⟨w.heap.size + 1 + 1, x, none⟩ (.int .i64 (P.wh (l'.take (P.size x))))) := by go_grown
      have hr2 : RowIs ((wr.setCell ⟨w.heap.size, 0, none⟩ (.string ⟨(l'.drop (P.size x)).toArray⟩)).setCell ⟨w.heap.size + 1 + 1, x, none⟩ (.int .i64 (P.wh (l'.take (P.size x))))) (w.heap.size + 1) (C.ask P.zeroA) := (HRW.out.set (by omega)).set (by omega)
      have HQ2 := show Aside _ from hr2
      clear hr2
      have HQ := show Aside (_ ∧ _ ∧ _ ∧ _ ∧ _ ∧ _) from ⟨q0, qf, qn, hR2, hN2, hB2⟩
      clear q0 qf qn hR2 hN2 hB2
      go_wp2
      go_roundg (ps.length - (k + 1))
      case measure => omega
      case rel => exact ⟨k + 1, _, _, by omega, rfl, by go_num, HQ.out.1, HQ.out.2.1, HQ.out.2.2.1, HQ.out.2.2.2.1, by simp; omega, HQ.out.2.2.2.2.1, HQ2.out, HQ.out.2.2.2.2.2, by simpa using hS⟩
    · obtain rfl : k = ps.length := by omega
      have hR2 : n' = P.readN ps (l.drop 3) (fun _ => 0) := by have := HR.out; rwa [List.drop_of_length_le (Nat.le_refl _), P.readN] at this
      have e0 := (HCN2.out 0 (by decide)).1
      have e1 := (HCN2.out 1 (by decide)).1
      have e2 := (HCN2.out 2 (by decide)).1
      have e3 := (HCN2.out 3 (by decide)).1
      have e4 := (HCN2.out 4 (by decide)).1
      have e5 := (HCN2.out 5 (by decide)).1
      have e6 := (HCN2.out 6 (by decide)).1
      have e7 := (HCN2.out 7 (by decide)).1
      have e8 := (HCN2.out 8 (by decide)).1
      have HA : Aside (V.ask (P.gath (P.kindOf l) (P.numberOf l) n') = V.ask (P.readA l)) := by show _ = _; rw [HE.out, ← hR2]
      clear hR2
      go_wp2_with fail
      refine (gather_any _ _ n' _).mono ?_
      rintro e w6 ⟨rfl, hb6⟩
      have HR6 := show Aside (RowIs w6 (w.heap.size + 1) (C.ask P.zeroA)) from HRW.out.below hb6
      have hB6 : Below w.heap.size w w6 := bvia hB hb6
      have hs6 := hb6.size
      clear hb6 HRW
      go_wp2_with (refine wpList_stC rfl 25 _ _ (by rfl) (w.heap.size + 1) (C.ask P.zeroA) (C.ask (P.gath (P.kindOf l) (P.numberOf l) n')) Tryd.sizeAsk (by rfl) (by rfl) HR6.out rfl (ask_one _) ?_; intro w9 hr9 hg9)
      refine bodyPost_ret (v := V.ask (P.gath (P.kindOf l) (P.numberOf l) n')) (res1 Tryd.results13 hr9 _ (by rfl) Tryd.underlying25 rfl Tryd.sizeAsk) rfl ?_
      exact ⟨by rw [← HA.out], below_gr hB6 (Nat.le_trans (by omega) hs6) hg9 (by omega)⟩

end Go.Proofs.YtfiaeokdcbmedafDoor
