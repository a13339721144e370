/- Walk of the reference's CheckAsk. -/
import Derived.Test.YtfiaeokdcbmedafDoorCdH
import Derived.Test.YtfiaeokdcbmedafDoorCdF
import Derived.Deep.RegionHeld3
namespace Go.Proofs.YtfiaeokdcbmedafDoor
open Go.RowKit
set_option linter.unusedSimpArgs false
set_option linter.unusedVariables false

/-- The order in which the reference goes through the parts. -/
def P.ord : Nat → Nat
  | 6 => 7
  | 7 => 8
  | 8 => 6
  | p => p
theorem ord_lt {i : Nat} (h : i < 9) : P.ord i < 9 := by
  match i, h with
  | 0, _ => decide
  | 1, _ => decide
  | 2, _ => decide
  | 3, _ => decide
  | 4, _ => decide
  | 5, _ => decide
  | 6, _ => decide
  | 7, _ => decide
  | 8, _ => decide
def P.extraO (n : Nat → Int) (ps : List Nat) (k : Nat) : Bool := (List.range k).any (fun i => n (P.ord i) != 0 && !ps.any (fun x => decide (x = P.ord i)))
theorem extraO_on {n : Nat → Int} {ps : List Nat} {k : Nat} : P.extraO n ps (k + 1) = (P.extraO n ps k || (n (P.ord k) != 0 && !ps.any (fun x => decide (x = P.ord k)))) := by
  simp [P.extraO, List.range_succ]
theorem extraO_more {n : Nat → Int} {ps : List Nat} {k m : Nat} (h : P.extraO n ps k = true) (hk : k ≤ m) : P.extraO n ps m = true := by
  unfold P.extraO at *
  rw [List.any_eq_true] at *
  obtain ⟨x, hx, h⟩ := h
  exact ⟨x, by simp at *; omega, h⟩
theorem extraO_all (n : Nat → Int) (ps : List Nat) : P.extraO n ps 9 = P.extra n ps 9 := by
  rw [Bool.eq_iff_iff]
  unfold P.extraO P.extra
  rw [List.any_eq_true, List.any_eq_true]
  constructor
  · rintro ⟨x, hx, h⟩
    exact ⟨P.ord x, by simp at hx ⊢; exact ord_lt hx, h⟩
  · rintro ⟨x, hx, h⟩
    simp at hx
    match x, hx, h with
    | 0, _, h => exact ⟨0, by simp, h⟩
    | 1, _, h => exact ⟨1, by simp, h⟩
    | 2, _, h => exact ⟨2, by simp, h⟩
    | 3, _, h => exact ⟨3, by simp, h⟩
    | 4, _, h => exact ⟨4, by simp, h⟩
    | 5, _, h => exact ⟨5, by simp, h⟩
    | 6, _, h => exact ⟨8, by simp, h⟩
    | 7, _, h => exact ⟨6, by simp, h⟩
    | 8, _, h => exact ⟨7, by simp, h⟩

abbrev P.all9 : ByteArray := { data := #[105, 103, 99, 107, 102, 116, 117, 97, 108, 115] }
theorem all9_at (k : Nat) (hk : k < 9) (h : k < P.all9.size) : P.all9[k]'h = P.letter (P.ord k) := by
  match k, hk with
  | 0, _ => rfl
  | 1, _ => rfl
  | 2, _ => rfl
  | 3, _ => rfl
  | 4, _ => rfl
  | 5, _ => rfl
  | 6, _ => rfl
  | 7, _ => rfl
  | 8, _ => rfl
theorem letters_at (ps : List Nat) (k x : Nat) (h : k < (ByteArray.mk (ps.map P.letter).toArray).size) (hx : ps[k]? = some x) : (ByteArray.mk (ps.map P.letter).toArray)[k]'h = P.letter x := by
  simp [ByteArray.getElem_eq_getElem_data]
  rw [List.getElem?_eq_some_iff] at hx
  rw [hx.2]
theorem letters_size (ps : List Nat) : (ByteArray.mk (ps.map P.letter).toArray).size = ps.length := by simp [ByteArray.size]
theorem letter_eq {p q : Nat} (hp : p < 9) (hq : q < 9) : (((P.letter p).toNat : Int) == ((P.letter q).toNat : Int)) = decide (p = q) := by
  by_cases h : p = q
  · subst h; simp
  · have : ¬ P.letter p = P.letter q := fun e => h (letter_inj hp hq e)
    simp [h]
    intro e
    exact this (UInt8.toNat_inj.1 (by omega))

set_option maxRecDepth 4000 in
set_option maxHeartbeats 8000000 in
theorem checkAsk_any (a : Ask) (w : World) : Calls Tryd.prog 7 #[V.ask a] w fun e w' => e = .returned (.int .i64 (P.askE a)) ∧ Below w.heap.size w w' := by
  cases h1 : P.btw a.kind 1 8
  · have HE : Aside (P.askE a = 7) := by show _ = _; rw [P.askE, if_pos h1]
    go_enter Tryd.func7, Tryd.ntmps7
    go_wp2_with (go_at_call 15; refine (between_any _ _ _ _).mono ?_; rintro e w1 ⟨rfl, rfl⟩; rw [h1])
    go_ret
    exact ⟨ret_int HE.out.symm, by go_grown⟩
  cases h2 : P.btw a.number 1 65535
  · have HE : Aside (P.askE a = 3) := by show _ = _; rw [P.askE, if_neg (by rw [h1]; simp), if_pos h2]
    go_enter Tryd.func7, Tryd.ntmps7
    go_wp2_with fail
    refine (between_any _ _ _ _).mono ?_
    rintro e w1 ⟨rfl, rfl⟩
    rw [h1]
    go_wp2_with fail
    refine (between_any _ _ _ _).mono ?_
    rintro e w1 ⟨rfl, rfl⟩
    rw [h2]
    go_wp2
    go_ret
    exact ⟨ret_int HE.out.symm, by go_grown⟩
  have HE : Aside (P.askE a = if P.extraO (P.num a) (P.names a.kind) 9 = true then 1 else if (P.names a.kind).any (P.off (P.num a)) = true then 3 else 0) := by show _ = _; rw [P.askE, if_neg (by rw [h1]; simp), if_neg (by rw [h2]; simp), extraO_all]
  go_enter Tryd.func7, Tryd.ntmps7
  go_wp2_with fail
  refine (between_any _ _ _ _).mono ?_
  rintro e w1 ⟨rfl, rfl⟩
  rw [h1]
  go_wp2_with fail
  refine (between_any _ _ _ _).mono ?_
  rintro e w1 ⟨rfl, rfl⟩
  rw [h2]
  have hHX0 : RowIs (W.ask w a) w.heap.size (C.ask a) := RowIs.new w _ _
  have hHB0 : Below w.heap.size w (W.ask w a) := alB _ _
  have HX0 : Aside (RowIs (W.ask w a) w.heap.size (C.ask a)) := hHX0
  have HB0 : Aside (Below w.heap.size w (W.ask w a)) := hHB0
  clear hHX0 hHB0
  go_wp2_with fail
  refine (namesOf_any _ _).mono ?_
  rintro e w1 ⟨rfl, rfl⟩
  have hnl := names_len a.kind
  have HIN : Aside (∀ p ∈ P.names a.kind, p < 9) := fun p hp => names_lt hp
  generalize P.names a.kind = ps at *
  have hsz := letters_size ps
  go_wp2
  change Code.wp Tryd.prog _ _ _ (W.ask w a)
  generalize W.ask w a = wB at HX0 HB0 ⊢
  go_loopg [5] 9 (fun g i wr => ∃ (k : Nat), k ≤ 9 ∧ g = 9 - k ∧ i = .int .i64 k ∧ P.extraO (P.num a) ps k = false ∧ Below wB.heap.size wB wr)
  case atStart => exact ⟨0, by omega, rfl, rfl, rfl, Below.refl _ _⟩
  case round =>
    obtain ⟨k, hk, rfl, rfl, hE2, hB⟩ := hrel
    have HX2 : Aside (P.extraO (P.num a) ps k = false) := hE2
    clear hE2
    by_cases hlt : k < 9
    · have hq9 := ord_lt hlt
      have x1 : (k : Int) < 10 := by omega
      have hs9 : k < P.all9.size := by show k < 10; omega
      have ha9 := all9_at k hlt hs9
      generalize hq : P.ord k = q at *
      have HQ := show Aside (P.ord k = q) from hq
      clear hq
      go_wp2
      go_loopg [6, 7] ps.length (fun g s i ww => ∃ (j : Nat), j ≤ ps.length ∧ g = ps.length - j ∧ i = .int .i64 j ∧ s = .bool ((ps.take j).any (fun x => decide (x = q))) ∧ Below wB.heap.size wB ww)
      case atStart => exact ⟨0, by omega, rfl, rfl, rfl, hB⟩
      case round =>
        obtain ⟨j, hj, rfl, rfl, rfl, hB2⟩ := hrel
        by_cases hjl : j < ps.length
        · obtain ⟨x, hx⟩ : ∃ x, ps[j]? = some x := ⟨ps[j], List.getElem?_eq_getElem hjl⟩
          have hx9 : x < 9 := HIN.out x (List.mem_of_getElem? hx)
          have HT : Aside ((ps.take (j + 1)).any (fun x => decide (x = q)) = ((ps.take j).any (fun x => decide (x = q)) || decide (x = q))) := by show _ = _; rw [← take_on hx, List.any_append]; simp
          have hsj : j < (ByteArray.mk (ps.map P.letter).toArray).size := by rw [hsz]; exact hjl
          have haj := letters_at ps j x hsj hx
          have hle := letter_eq hx9 hq9
          have y1 : (j : Int) < (ps.length : Int) := by omega
          clear hx
          cases hb : (ps.take j).any (fun x => decide (x = q))
          · go_wp2
            go_quiet (fail)
            go_wp2
            go_roundg (ps.length - (j + 1))
            case measure => omega
            case rel => exact ⟨j + 1, by omega, rfl, by go_num, by rw [HT.out, hb]; rfl, below_drewN hB2 _⟩
          · go_wp2
            go_quiet (fail)
            go_wp2
            go_roundg (ps.length - (j + 1))
            case measure => omega
            case rel => exact ⟨j + 1, by omega, rfl, by go_num, by rw [HT.out, hb]; rfl, below_drewN hB2 _⟩
        · obtain rfl : j = ps.length := by omega
          rw [List.take_of_length_le (Nat.le_refl _)]
          cases hany : ps.any (fun x => decide (x = q))
          · have HY := show Aside _ from hany
            clear hany
            by_cases hz : P.num a q = 0
            · have HX3 : Aside (P.extraO (P.num a) ps (k + 1) = false) := by show _ = _; rw [extraO_on, HX2.out, HQ.out, HY.out, hz]; rfl
              have hz' : (P.num a q != 0) = false := by simpa using hz
              clear hz
              obtain ⟨k0, k1, k2, k3, k4, k5, k6, k7, k8, k9, k10⟩ := RowIs.abox (RowIs.below HX0.out hB2)
              go_wp2
              go_region_held3 (fun u => u.cell? ⟨w.heap.size, 0, none⟩ = some (.int .i64 a.number) ∧ u.cell? ⟨w.heap.size, 1, none⟩ = some (.int .i64 a.kind) ∧ u.cell? ⟨w.heap.size, 2, none⟩ = some (.int .i64 a.id) ∧ u.cell? ⟨w.heap.size, 3, none⟩ = some (.int .i64 a.guests) ∧ u.cell? ⟨w.heap.size, 4, none⟩ = some (.bool a.level) ∧ u.cell? ⟨w.heap.size, 5, none⟩ = some (.int .i64 a.cabin) ∧ u.cell? ⟨w.heap.size, 6, none⟩ = some (.int .i64 a.category) ∧ u.cell? ⟨w.heap.size, 7, none⟩ = some (.int .i64 a.f) ∧ u.cell? ⟨w.heap.size, 8, none⟩ = some (.int .i64 a.t) ∧ u.cell? ⟨w.heap.size, 9, none⟩ = some (.int .i64 a.til) ∧ u.cell? ⟨w.heap.size, 10, none⟩ = some (.int .i64 a.amount))
                (first | with_reducible exact ⟨k0, k1, k2, k3, k4, k5, k6, k7, k8, k9, k10⟩ | with_reducible exact ⟨y0, y1, y2, y3, y4, y5, y6, y7, y8, y9, y10⟩ | go_keep)
                (first
                  | (go_at_call 17; refine (valueOf_any a q _ hq9).mono ?_; rintro e w5 ⟨rfl, hb5⟩; obtain ⟨y0, y1, y2, y3, y4, y5, y6, y7, y8, y9, y10⟩ := RowIs.abox (RowIs.below HX0.out (by first | with_reducible exact bvia hB2 hb5 | with_reducible exact bvia hB2 (bvia (drB _) hb5))); have hb5' := bvia (drB _) hb5))
              all_goals
                go_wp2
                go_roundg (9 - (k + 1))
                case measure => omega
                case rel => exact ⟨k + 1, by omega, rfl, by go_num, HX3.out, bvia hB2 hb5'⟩
            · have hz' : (P.num a q != 0) = true := by simpa using hz
              have HX3 : Aside (P.extraO (P.num a) ps (k + 1) = true) := by show _ = _; rw [extraO_on, HX2.out, HQ.out, HY.out, hz']; rfl
              have HE9 : Aside (P.extraO (P.num a) ps 9 = true) := extraO_more HX3.out (by omega)
              clear hz
              obtain ⟨k0, k1, k2, k3, k4, k5, k6, k7, k8, k9, k10⟩ := RowIs.abox (RowIs.below HX0.out hB2)
              go_wp2
              go_region_held3 (fun u => u.cell? ⟨w.heap.size, 0, none⟩ = some (.int .i64 a.number) ∧ u.cell? ⟨w.heap.size, 1, none⟩ = some (.int .i64 a.kind) ∧ u.cell? ⟨w.heap.size, 2, none⟩ = some (.int .i64 a.id) ∧ u.cell? ⟨w.heap.size, 3, none⟩ = some (.int .i64 a.guests) ∧ u.cell? ⟨w.heap.size, 4, none⟩ = some (.bool a.level) ∧ u.cell? ⟨w.heap.size, 5, none⟩ = some (.int .i64 a.cabin) ∧ u.cell? ⟨w.heap.size, 6, none⟩ = some (.int .i64 a.category) ∧ u.cell? ⟨w.heap.size, 7, none⟩ = some (.int .i64 a.f) ∧ u.cell? ⟨w.heap.size, 8, none⟩ = some (.int .i64 a.t) ∧ u.cell? ⟨w.heap.size, 9, none⟩ = some (.int .i64 a.til) ∧ u.cell? ⟨w.heap.size, 10, none⟩ = some (.int .i64 a.amount))
                (first | with_reducible exact ⟨k0, k1, k2, k3, k4, k5, k6, k7, k8, k9, k10⟩ | with_reducible exact ⟨y0, y1, y2, y3, y4, y5, y6, y7, y8, y9, y10⟩ | go_keep)
                (first
                  | (go_at_call 17; refine (valueOf_any a q _ hq9).mono ?_; rintro e w5 ⟨rfl, hb5⟩; obtain ⟨y0, y1, y2, y3, y4, y5, y6, y7, y8, y9, y10⟩ := RowIs.abox (RowIs.below HX0.out (by first | with_reducible exact bvia hB2 hb5 | with_reducible exact bvia hB2 (bvia (drB _) hb5))); have hb5' := bvia (drB _) hb5))
              all_goals
                go_wp2
                go_ret
                exact ⟨ret_int (by rw [HE.out, if_pos HE9.out]), bvia HB0.out (bvia hB2 hb5')⟩
          · have HY := show Aside _ from hany
            clear hany
            have HX3 : Aside (P.extraO (P.num a) ps (k + 1) = false) := by show _ = _; rw [extraO_on, HX2.out, HQ.out, HY.out]; simp
            obtain ⟨k0, k1, k2, k3, k4, k5, k6, k7, k8, k9, k10⟩ := RowIs.abox (RowIs.below HX0.out hB2)
            go_wp2
            go_region_held3 (fun u => u.cell? ⟨w.heap.size, 0, none⟩ = some (.int .i64 a.number) ∧ u.cell? ⟨w.heap.size, 1, none⟩ = some (.int .i64 a.kind) ∧ u.cell? ⟨w.heap.size, 2, none⟩ = some (.int .i64 a.id) ∧ u.cell? ⟨w.heap.size, 3, none⟩ = some (.int .i64 a.guests) ∧ u.cell? ⟨w.heap.size, 4, none⟩ = some (.bool a.level) ∧ u.cell? ⟨w.heap.size, 5, none⟩ = some (.int .i64 a.cabin) ∧ u.cell? ⟨w.heap.size, 6, none⟩ = some (.int .i64 a.category) ∧ u.cell? ⟨w.heap.size, 7, none⟩ = some (.int .i64 a.f) ∧ u.cell? ⟨w.heap.size, 8, none⟩ = some (.int .i64 a.t) ∧ u.cell? ⟨w.heap.size, 9, none⟩ = some (.int .i64 a.til) ∧ u.cell? ⟨w.heap.size, 10, none⟩ = some (.int .i64 a.amount))
              (first | with_reducible exact ⟨k0, k1, k2, k3, k4, k5, k6, k7, k8, k9, k10⟩ | with_reducible exact ⟨y0, y1, y2, y3, y4, y5, y6, y7, y8, y9, y10⟩ | go_keep)
              (first
                | (go_at_call 17; refine (valueOf_any a q _ hq9).mono ?_; rintro e w5 ⟨rfl, hb5⟩; obtain ⟨y0, y1, y2, y3, y4, y5, y6, y7, y8, y9, y10⟩ := RowIs.abox (RowIs.below HX0.out (by first | with_reducible exact bvia hB2 hb5 | with_reducible exact bvia hB2 (bvia (drB _) hb5))); have hb5' := bvia (drB _) hb5))
            all_goals
              go_wp2
              go_roundg (9 - (k + 1))
              case measure => omega
              case rel => exact ⟨k + 1, by omega, rfl, by go_num, HX3.out, bvia hB2 hb5'⟩
    · obtain rfl : k = 9 := by omega
      have HE2 : Aside (P.askE a = if ps.any (P.off (P.num a)) = true then 3 else 0) := by show _ = _; rw [HE.out, if_neg (by rw [HX2.out]; simp)]
      go_wp2
      go_loopg [11] ps.length (fun g i ww => ∃ (j : Nat), j ≤ ps.length ∧ g = ps.length - j ∧ i = .int .i64 j ∧ (ps.drop j).any (P.off (P.num a)) = ps.any (P.off (P.num a)) ∧ Below wB.heap.size wB ww)
      case atStart => exact ⟨0, by omega, rfl, rfl, rfl, hB⟩
      case round =>
        obtain ⟨j, hj, rfl, rfl, hP2, hB3⟩ := hrel
        have HP2 : Aside ((ps.drop j).any (P.off (P.num a)) = ps.any (P.off (P.num a))) := hP2
        clear hP2 hB
        by_cases hjl : j < ps.length
        · obtain ⟨x, hx⟩ : ∃ x, ps[j]? = some x := ⟨ps[j], List.getElem?_eq_getElem hjl⟩
          have hx9 : x < 9 := HIN.out x (List.mem_of_getElem? hx)
          have hX : ps[j] = x := by have := List.getElem?_eq_getElem hjl; rw [hx] at this; exact (Option.some.inj this).symm
          have HX := show Aside _ from hX
          have hD : ps.drop j = x :: ps.drop (j + 1) := by rw [List.drop_eq_getElem_cons hjl, hX]
          have HD := show Aside _ from hD
          have hsj : j < (ByteArray.mk (ps.map P.letter).toArray).size := by rw [hsz]; exact hjl
          have haj := letters_at ps j x hsj hx
          have y1 : (j : Int) < (ps.length : Int) := by omega
          clear hx hX hD
          cases hoff : P.btw (P.num a x) 0 (P.mostOf x)
          · have HO : Aside (P.off (P.num a) x = true) := by show _ = _; simp [P.btw] at hoff; simp [P.off]; omega
            obtain ⟨k0, k1, k2, k3, k4, k5, k6, k7, k8, k9, k10⟩ := RowIs.abox (RowIs.below HX0.out hB3)
            go_wp2
            go_region_held3 (fun u => u.cell? ⟨w.heap.size, 0, none⟩ = some (.int .i64 a.number) ∧ u.cell? ⟨w.heap.size, 1, none⟩ = some (.int .i64 a.kind) ∧ u.cell? ⟨w.heap.size, 2, none⟩ = some (.int .i64 a.id) ∧ u.cell? ⟨w.heap.size, 3, none⟩ = some (.int .i64 a.guests) ∧ u.cell? ⟨w.heap.size, 4, none⟩ = some (.bool a.level) ∧ u.cell? ⟨w.heap.size, 5, none⟩ = some (.int .i64 a.cabin) ∧ u.cell? ⟨w.heap.size, 6, none⟩ = some (.int .i64 a.category) ∧ u.cell? ⟨w.heap.size, 7, none⟩ = some (.int .i64 a.f) ∧ u.cell? ⟨w.heap.size, 8, none⟩ = some (.int .i64 a.t) ∧ u.cell? ⟨w.heap.size, 9, none⟩ = some (.int .i64 a.til) ∧ u.cell? ⟨w.heap.size, 10, none⟩ = some (.int .i64 a.amount))
              (first | with_reducible exact ⟨k0, k1, k2, k3, k4, k5, k6, k7, k8, k9, k10⟩ | with_reducible exact ⟨y0, y1, y2, y3, y4, y5, y6, y7, y8, y9, y10⟩ | go_keep)
              (first
                | (go_at_call 17; refine (valueOf_any a x _ hx9).mono ?_; rintro e w5 ⟨rfl, hb5⟩; obtain ⟨y0, y1, y2, y3, y4, y5, y6, y7, y8, y9, y10⟩ := RowIs.abox (RowIs.below HX0.out (by first | with_reducible exact bvia hB3 hb5 | with_reducible exact bvia hB3 (bvia (drB _) hb5))); have hb5' := bvia (drB _) hb5))
            all_goals
              go_wp2_with fail
              refine (between_any _ _ _ _).mono ?_
              rintro e w6 ⟨rfl, rfl⟩
              rw [hoff]
              go_wp2
              go_ret
              exact ⟨ret_int (by rw [HE2.out, anyN_hit hjl HX.out HO.out]; rfl), bvia HB0.out (bvia hB3 hb5')⟩
          · have HO : Aside (P.off (P.num a) x = false) := by show _ = _; simp [P.btw] at hoff; simp [P.off]; omega
            obtain ⟨k0, k1, k2, k3, k4, k5, k6, k7, k8, k9, k10⟩ := RowIs.abox (RowIs.below HX0.out hB3)
            go_wp2
            go_region_held3 (fun u => u.cell? ⟨w.heap.size, 0, none⟩ = some (.int .i64 a.number) ∧ u.cell? ⟨w.heap.size, 1, none⟩ = some (.int .i64 a.kind) ∧ u.cell? ⟨w.heap.size, 2, none⟩ = some (.int .i64 a.id) ∧ u.cell? ⟨w.heap.size, 3, none⟩ = some (.int .i64 a.guests) ∧ u.cell? ⟨w.heap.size, 4, none⟩ = some (.bool a.level) ∧ u.cell? ⟨w.heap.size, 5, none⟩ = some (.int .i64 a.cabin) ∧ u.cell? ⟨w.heap.size, 6, none⟩ = some (.int .i64 a.category) ∧ u.cell? ⟨w.heap.size, 7, none⟩ = some (.int .i64 a.f) ∧ u.cell? ⟨w.heap.size, 8, none⟩ = some (.int .i64 a.t) ∧ u.cell? ⟨w.heap.size, 9, none⟩ = some (.int .i64 a.til) ∧ u.cell? ⟨w.heap.size, 10, none⟩ = some (.int .i64 a.amount))
              (first | with_reducible exact ⟨k0, k1, k2, k3, k4, k5, k6, k7, k8, k9, k10⟩ | with_reducible exact ⟨y0, y1, y2, y3, y4, y5, y6, y7, y8, y9, y10⟩ | go_keep)
              (first
                | (go_at_call 17; refine (valueOf_any a x _ hx9).mono ?_; rintro e w5 ⟨rfl, hb5⟩; obtain ⟨y0, y1, y2, y3, y4, y5, y6, y7, y8, y9, y10⟩ := RowIs.abox (RowIs.below HX0.out (by first | with_reducible exact bvia hB3 hb5 | with_reducible exact bvia hB3 (bvia (drB _) hb5))); have hb5' := bvia (drB _) hb5))
            all_goals
              go_wp2_with fail
              refine (between_any _ _ _ _).mono ?_
              rintro e w6 ⟨rfl, rfl⟩
              rw [hoff]
              go_wp2
              go_roundg (ps.length - (j + 1))
              case measure => omega
              case rel => exact ⟨j + 1, by omega, rfl, by go_num, anyN_on HP2.out HD.out HO.out, bvia hB3 hb5'⟩
        · obtain rfl : j = ps.length := by omega
          go_wp2
          go_ret
          exact ⟨ret_int (by rw [HE2.out, anyN_none HP2.out]; rfl), bvia HB0.out hB3⟩

end Go.Proofs.YtfiaeokdcbmedafDoor
