/- Walk of write. -/
import Derived.Test.YtfiaeokdcbmedafDoorCdB
import Derived.Deep.RegionHeld3
namespace Go.Proofs.YtfiaeokdcbmedafDoor
open Go.RowKit
set_option linter.unusedSimpArgs false
set_option linter.unusedVariables false

/-- The bytes of a request. -/
def P.rest (n : Nat → Int) (ps : List Nat) : List UInt8 := ps.flatMap (fun p => P.be (n p) (P.size p))
def P.bytes (a : Ask) : List UInt8 := P.be a.kind 1 ++ P.be a.number 2 ++ P.rest (P.num a) (P.names a.kind)
theorem rest_len (n : Nat → Int) (ps : List Nat) : (P.rest n ps).length = (ps.map P.size).sum := by
  induction ps with
  | nil => rfl
  | cons p ps ih => unfold P.rest at *; rw [List.flatMap_cons, List.length_append, be_len, ih]; simp
theorem rest_snoc (n : Nat → Int) (ps : List Nat) (p : Nat) : P.rest n (ps ++ [p]) = P.rest n ps ++ P.be (n p) (P.size p) := by simp [P.rest]
theorem size_le (p : Nat) : P.size p ≤ 4 := by unfold P.size; split <;> omega
theorem rest_le (n : Nat → Int) (ps : List Nat) : (P.rest n ps).length ≤ 4 * ps.length := by
  induction ps with
  | nil => simp [P.rest]
  | cons p ps ih =>
    have := size_le p
    unfold P.rest at *
    rw [List.flatMap_cons, List.length_append, be_len, List.length_cons]; omega
theorem bytes_le (a : Ask) : 3 ≤ (P.bytes a).length ∧ (P.bytes a).length ≤ 31 := by
  have h1 := rest_le (P.num a) (P.names a.kind)
  have h2 := names_len a.kind
  simp only [P.bytes, List.length_append, be_len]
  omega

theorem put1_any (n : Int) (base : Nat) (w : World) (hb : base ≤ w.heap.size) :
    Calls Tryd.prog 25 #[.slice none 0 0, .int .i64 n, .int .i64 1] w fun e w' => ∃ v', e = .returned v' ∧ OwnB w' base v' (P.be n 1) ∧ Below base w w' ∧ FarB w w' :=
  put_any (.slice none 0 0) [] n 1 base w (OwnC.nil _ _) hb (by simp) (by decide)
theorem put2_any (v : Value) (l : List UInt8) (n : Int) (base : Nat) (w : World) (hown : OwnB w base v l) (hb : base ≤ w.heap.size) (hl : l.length ≤ 1000) :
    Calls Tryd.prog 25 #[v, .int .i64 n, .int .i64 2] w fun e w' => ∃ v', e = .returned v' ∧ OwnB w' base v' (l ++ P.be n 2) ∧ Below base w w' ∧ FarB w w' :=
  put_any v l n 2 base w hown hb hl (by decide)

/-- 'string(v)'. -/
theorem own_string {w : World} {base : Nat} {v : Value} {l : List UInt8} (h : OwnB w base v l) (h0 : 0 < l.length) : (convert 54 9 v).run Tryd.prog w = .ok (.string ⟨l.toArray⟩) w := by
  obtain ⟨ao, cap, rfl, hs⟩ := OwnC.at cellsB_len h
  obtain ⟨b, off, rfl, _, hc⟩ := hs.cells h0
  refine Lib.run_convert_whole w _ 5 _ Tryd.underlying54 Tryd.underlying5 Tryd.underlying9 b off ⟨l.toArray⟩ (fun i hi => ?_) cap
  have hi' : i < l.length := by simpa [ByteArray.size] using hi
  obtain ⟨cs, h1, _, h3⟩ := hc i hi'
  have h1' : cs = CByte l[i] := h1
  subst h1'
  have := h3 0 _ rfl
  rw [Nat.mul_one, Nat.add_zero] at this
  rw [this]
  simp [ByteArray.getElem_eq_getElem_data]

theorem nums_cell {w : World} (n : Nat → Int) {b : Nat} (h : w.heap[b]? = some (.cells #[.int .i64 (n 0), .int .i64 (n 1), .int .i64 (n 2), .int .i64 (n 3), .int .i64 (n 4), .int .i64 (n 5), .int .i64 (n 6), .int .i64 (n 7), .int .i64 (n 8)] 45 (0, 0))) (j : Nat) (hj : j < 9) :
    w.cell? ⟨b, j, none⟩ = some (.int .i64 (n j)) := by
  rw [cell_of_row _ b j _ _ (0, 0) h]
  match j, hj with
  | 0, _ => rfl
  | 1, _ => rfl
  | 2, _ => rfl
  | 3, _ => rfl
  | 4, _ => rfl
  | 5, _ => rfl
  | 6, _ => rfl
  | 7, _ => rfl
  | 8, _ => rfl

theorem cellB {B : Nat} {w w' : World} {b o : Nat} {v : Value} (hB : Below B w w') (hb : b < B) (h : w.cell? ⟨b, o, none⟩ = some v) : w'.cell? ⟨b, o, none⟩ = some v := by
  rw [hB.cell (p := ⟨b, o, none⟩) hb]; exact h
theorem PartsAt.belowB {B : Nat} {w w' : World} (h : PartsAt w) (hb : Below B w w') (h0 : 0 < B) : PartsAt w' := ⟨fun j hj => cellB hb h0 (h.size j hj), fun j hj => cellB hb h0 (h.most j hj)⟩

theorem drB (w : World) : Below w.heap.size w w.drew := by go_grown

abbrev W.nm (w : World) (n : Nat → Int) : World := w.alloc (.cells #[.int .i64 (n 0), .int .i64 (n 1), .int .i64 (n 2), .int .i64 (n 3), .int .i64 (n 4), .int .i64 (n 5), .int .i64 (n 6), .int .i64 (n 7), .int .i64 (n 8)] 45)

set_option maxRecDepth 4000 in
set_option maxHeartbeats 4000000 in
theorem write_any (a : Ask) (w : World) (hp : PartsAt w) : Calls Tryd.prog 12 #[V.ask a] w fun e w' => e = .returned (.string ⟨(P.bytes a).toArray⟩) ∧ Below w.heap.size w w' := by
  have HE : Aside (P.bytes a = P.be a.kind 1 ++ P.be a.number 2 ++ P.rest (P.num a) (P.names a.kind)) := rfl
  go_enter Tryd.func12, Tryd.ntmps12
  go_wp2_with fail
  refine (spread_any a _).mono ?_
  rintro e w1 ⟨rfl, hb1⟩
  have hB1 : Below w.heap.size w w1 := bvia (by go_grown) hb1
  have k1 : w1.cell? ⟨w.heap.size, 1, none⟩ = some (.int .i64 a.kind) := cellIn hb1 (by simp)
  have k0 : w1.cell? ⟨w.heap.size, 0, none⟩ = some (.int .i64 a.number) := cellIn hb1 (by simp)
  have hlt : w.heap.size < w1.heap.size := Nat.lt_of_lt_of_le (by simp) hb1.size
  clear hb1
  have hc0 : ∀ j, j < 9 → (W.nm w1 (P.num a)).cell? ⟨w1.heap.size, j, none⟩ = some (.int .i64 (P.num a j)) := nums_cell _ (heap_alloc_new w1 _)
  have HC0 := show Aside _ from hc0
  clear hc0
  have hps : PartsAt (W.nm w1 (P.num a)) := hp.below (bvia hB1 (by go_grown))
  have HPS := show Aside _ from hps
  clear hps
  go_wp2_with fail
  refine (put1_any _ (w1.heap.size + 1) _ (by simp)).mono ?_
  rintro e w2 ⟨v2, rfl, own2, hb2, _⟩
  have hb2' : Below (W.nm w1 (P.num a)).heap.size (W.nm w1 (P.num a)) w2 := by rw [World.size_alloc]; exact hb2
  have HC2 : Aside (∀ j, j < 9 → w2.cell? ⟨w1.heap.size, j, none⟩ = some (.int .i64 (P.num a j))) := fun j hj => cellIn hb2' (HC0.out j hj)
  have HP2 : Aside (PartsAt w2) := HPS.out.below hb2'
  have hB2 : Below w.heap.size w w2 := bvia hB1 (bvia (by go_grown) hb2')
  have m0 : w2.cell? ⟨w.heap.size, 0, none⟩ = some (.int .i64 a.number) := cellIn hb2' (by go_simp)
  have m1 : w2.cell? ⟨w.heap.size, 1, none⟩ = some (.int .i64 a.kind) := cellIn hb2' (by go_simp)
  have hs2 : w1.heap.size + 1 ≤ w2.heap.size := by simpa using hb2.size
  clear k0 k1 HC0 HPS hb2 hb2'
  have HO2 := show Aside _ from own2
  clear own2
  go_wp2_with fail
  refine (put2_any v2 _ _ (w1.heap.size + 1) _ HO2.out hs2 (by rw [be_len]; decide)).mono ?_
  rintro e w3 ⟨v3, rfl, own3, hb3, _⟩
  have HO3 : Aside (OwnB w3 (w1.heap.size + 1) v3 (P.be a.kind 1 ++ P.be a.number 2)) := own3
  clear own3
  have HC3 : Aside (∀ j, j < 9 → w3.cell? ⟨w1.heap.size, j, none⟩ = some (.int .i64 (P.num a j))) := fun j hj => cellB hb3 (Nat.lt_succ_self _) (HC2.out j hj)
  have HP3 : Aside (PartsAt w3) := HP2.out.belowB hb3 (by omega)
  have hB3 : Below w.heap.size w w3 := hB2.trans (hb3.mono (by omega))
  have n1 : w3.cell? ⟨w.heap.size, 1, none⟩ = some (.int .i64 a.kind) := cellB hb3 (by omega) m1
  have hs3 : w1.heap.size + 1 ≤ w3.heap.size := Nat.le_trans hs2 hb3.size
  clear m0 m1 HC2 HP2 HO2 hb3 hB2 hs2
  go_wp2_with fail
  refine (named_any a.kind _).mono ?_
  rintro e w4 ⟨ao, rfl, hn4, hb4, _⟩
  have HO4 : Aside (OwnB w4 (w1.heap.size + 1) v3 (P.be a.kind 1 ++ P.be a.number 2)) := OwnC.below HO3.out hb4
  have HC4 : Aside (∀ j, j < 9 → w4.cell? ⟨w1.heap.size, j, none⟩ = some (.int .i64 (P.num a j))) := fun j hj => cellIn hb4 (HC3.out j hj)
  have HP4 : Aside (PartsAt w4) := HP3.out.below hb4
  have hB4 : Below w.heap.size w w4 := bvia hB3 hb4
  have hs4 : w1.heap.size + 1 ≤ w4.heap.size := Nat.le_trans hs3 hb4.size
  have hnl := names_len a.kind
  have HIN : Aside (∀ p ∈ P.names a.kind, p < 9) := fun p hp => names_lt hp
  generalize hps : P.names a.kind = ps at *
  have HN4 := show Aside (NatsB w4 ao ps) from hn4
  clear n1 HO3 HC3 HP3 hB3 hb4 hn4 hs3 hps
  go_wp2
  go_loopg [4, 20] ps.length (fun g s i wr => ∃ (k : Nat), k ≤ ps.length ∧ g = ps.length - k ∧ i = .int .i64 k ∧ OwnB wr (w1.heap.size + 1) s (P.be a.kind 1 ++ P.be a.number 2 ++ P.rest (P.num a) (ps.take k)) ∧ Below (w1.heap.size + 1) w4 wr ∧ FarB w4 wr ∧ w1.heap.size + 1 ≤ wr.heap.size)
  case atStart => exact ⟨0, Nat.zero_le _, rfl, rfl, by simpa [P.rest] using HO4.out, Below.refl _ _, FarB.refl _, hs4⟩
  case round =>
    obtain ⟨k, hk, rfl, rfl, hO, hB, hF, hS⟩ := hrel
    have HO : Aside (OwnB wr (w1.heap.size + 1) u4 (P.be a.kind 1 ++ P.be a.number 2 ++ P.rest (P.num a) (ps.take k))) := hO
    have HF : Aside (FarB w4 wr) := hF
    clear hO hF
    by_cases hlt : k < ps.length
    · obtain ⟨b, off, x, hao, hbw, hd, hx, hc0⟩ := NatsAt.get ((HN4.out.far HF.out).at (by simp only [maxLen]; omega)) (Below.refl _ _) k hlt
      subst hao
      have HD : Aside (ps.take k ++ [x] = ps.take (k + 1)) := take_on (by rw [List.getElem?_eq_getElem hlt, hx])
      have hx9 : x < 9 := HIN.out x (by rw [← hx]; exact List.getElem_mem hlt)
      have c1 : wr.cell? ⟨w1.heap.size, x, none⟩ = some (.int .i64 (P.num a x)) := cellB hB (Nat.lt_succ_self _) (HC4.out x hx9)
      have c2 : wr.cell? ⟨0, x * 2, none⟩ = some (.int .i64 (P.size x)) := cellB hB (by omega) (HP4.out.size x hx9)
      have x1 : (x : Int) < 9 := by omega
      have x0 : (0 : Int) ≤ (x : Int) := by omega
      have HX9 : Aside (x < 9) := hx9
      have HZ : Aside (P.be a.kind 1 ++ P.be a.number 2 ++ P.rest (P.num a) (ps.take k) ++ P.be (P.num a x) (P.size x) = P.be a.kind 1 ++ P.be a.number 2 ++ P.rest (P.num a) (ps.take (k + 1))) := by
        show _ = _
        rw [List.append_assoc, ← rest_snoc, HD.out]
      have HL : Aside ((P.be a.kind 1 ++ P.be a.number 2 ++ P.rest (P.num a) (ps.take k)).length ≤ 1000) := by
        show _ ≤ _
        have := rest_le (P.num a) (ps.take k)
        simp only [List.length_append, be_len, List.length_take] at *
        omega
      clear hx hd
      go_wp2
      go_region_held3 (fun u => u.cell? ⟨w1.heap.size, x, none⟩ = some (.int .i64 (P.num a x)) ∧ u.cell? ⟨0, x * 2, none⟩ = some (.int .i64 (P.size x)))
        (first | exact ⟨c1, c2⟩ | exact ⟨d1, d2⟩ | go_keep)
        (first
          | (go_at_call 25; refine (put_any u4 _ (P.num a x) (P.size x) (w1.heap.size + 1) _ (OwnC.below HO.out (drB _)) hS HL.out (size_le x)).mono ?_; rintro e w5 ⟨v5, rfl, own5, hb5, hf5⟩; have d1 := cellB hb5 (Nat.lt_succ_self _) c1; have d2 := cellB hb5 (by omega) c2))
      all_goals
        have HO5 : Aside (OwnB w5 (w1.heap.size + 1) v5 (P.be a.kind 1 ++ P.be a.number 2 ++ P.rest (P.num a) (ps.take (k + 1)))) := by rw [HZ.out] at own5; exact own5
        have HF5 : Aside (FarB w4 w5) := HF.out.trans ((FarB.below (drB _)).trans hf5)
        have hB5 : Below (w1.heap.size + 1) w4 w5 := hB.trans (((drB wr).mono hS).trans hb5)
        have hS5 : w1.heap.size + 1 ≤ w5.heap.size := Nat.le_trans hS hb5.size
        clear own5 hf5 d1 d2 c1 c2
        go_wp2
        go_roundg (ps.length - (k + 1))
        case measure => omega
        case rel => exact ⟨k + 1, by omega, rfl, by go_num, HO5.out, hB5, HF5.out, hS5⟩
    · obtain rfl : k = ps.length := by omega
      have e : ps.take ps.length = ps := List.take_of_length_le (Nat.le_refl _)
      have HOF : Aside (OwnB wr (w1.heap.size + 1) u4 (P.bytes a)) := by have := HO.out; rw [e, ← HE.out] at this; exact this
      have hcv := own_string HOF.out (by have := (bytes_le a).1; omega)
      go_wp2
      go_ret
      exact ⟨rfl, hB4.trans (hB.mono (by omega))⟩

end Go.Proofs.YtfiaeokdcbmedafDoor
