/- Walks of SameInts, vessel, shipBegun. -/
import Derived.Test.YtnadhpemmehedaaShipH
namespace Go.Proofs.Ytnadhpemmehedaa
open Go.RowKit Go.Maps Go.WideMaps
set_option linter.unusedSimpArgs false
set_option linter.unusedVariables false

theorem drop_eqI {a b : List Int} {s t : Int} {k : Nat} (ha : a.drop k = s :: a.drop (k + 1)) (hb : b.drop k = t :: b.drop (k + 1)) : a.drop k = b.drop k ↔ s = t ∧ a.drop (k + 1) = b.drop (k + 1) := by
  rw [ha, hb, List.cons.injEq]

set_option maxHeartbeats 1000000 in
theorem sameInts_any (ao bo : Option Addr) (ca cb : Nat) (a b : List Int) (w : World) (ha : IntsAt w ao ca a) (hb : IntsAt w bo cb b) :
    Calls Try.prog 30 #[.slice ao a.length ca, .slice bo b.length cb] w fun e w' => e = .returned (.bool (decide (a = b))) ∧ Below w.heap.size w w' := by
  have hle := ha.le
  have hmx := ha.max
  have hle' := hb.le
  have hmx' := hb.max
  unfold maxLen at hmx hmx'
  by_cases hlen : a.length = b.length
  · have HL : Aside (a.length = b.length) := hlen
    have hne : ((a.length : Int) != (b.length : Int)) = false := by simp [hlen]
    go_enter Try.func30, Try.ntmps30
    clear hlen
    go_wp2
    go_loopg [5] a.length (fun g i wr => ∃ (k : Nat), k ≤ a.length ∧ g = a.length - k ∧ i = .int .i64 k ∧ (a.drop k = b.drop k ↔ a = b) ∧ Below w.heap.size w wr)
    case atStart => exact ⟨0, Nat.zero_le _, rfl, rfl, Iff.rfl, Below.refl _ _⟩
    case round =>
      obtain ⟨k, hk, rfl, rfl, hP, hB⟩ := hrel
      have hBs := hB.size
      have HP : Aside (a.drop k = b.drop k ↔ a = b) := hP
      clear hP
      by_cases hlt : k < a.length
      · have hlt' : k < b.length := by have := HL.out; omega
        obtain ⟨b1, o1, f, rfl, hbw, hd, hc0⟩ := ha.get hB k hlt
        obtain ⟨b2, o2, f', rfl, hbw', hd', hc0'⟩ := hb.get hB k hlt'
        have HE : Aside (a.drop k = b.drop k ↔ f = f' ∧ a.drop (k + 1) = b.drop (k + 1)) := drop_eqI hd hd'
        clear hd hd'
        have hi1 : (k : Int) < (a.length : Int) := by omega
        have hi2 : (k : Int) < (b.length : Int) := by omega
        have hi3 : (0 : Int) ≤ (k : Int) := by omega
        by_cases e1 : f = f'
        · subst e1
          have HQ : Aside (a.drop (k + 1) = b.drop (k + 1) ↔ a = b) := by show _ ↔ _; rw [← HP.out, HE.out]; simp
          clear HE HP
          go_wp2
          go_quiet (fail)
          go_wp2
          go_roundg (a.length - (k + 1))
          case measure => omega
          case rel => exact ⟨k + 1, by omega, rfl, by go_num, HQ.out, below_drewN hB _⟩
        · have e1' : (f != f') = true := by simpa using e1
          have HN : Aside (decide (a = b) = false) := by
            rw [decide_eq_false_iff_not]; intro h; exact e1 (HE.out.1 (HP.out.2 h)).1
          clear HE HP
          go_wp2
          go_quiet (fail)
          go_wp2
          go_ret
          exact ⟨ret_bool HN.out.symm, below_drewN hB _⟩
      · have : k = a.length := by omega
        subst this
        go_wp2
        go_ret
        have hP := HP.out
        refine ⟨ret_bool ?_, hB⟩
        rw [List.drop_of_length_le (Nat.le_refl _), List.drop_of_length_le (by rw [HL.out]; exact Nat.le_refl _)] at hP
        simp [hP.1 rfl]
  · have hne : ((a.length : Int) != (b.length : Int)) = true := by rw [bne_iff_ne]; omega
    go_enter Try.func30, Try.ntmps30
    go_wp2
    go_ret
    exact ⟨ret_bool (by rw [eq_comm, decide_eq_false_iff_not]; intro h; exact hlen (by rw [h])), Below.refl _ _⟩

def vcats : List Cat := [(⟨#[73, 78]⟩, [1]), (⟨#[79, 85, 84]⟩, [2]), (⟨#[83, 85, 73, 84, 69]⟩, [])]
def vcabs : List Cab := [(⟨#[65, 49]⟩, 0, 2, false), (⟨#[66, 49]⟩, 1, 4, true), (⟨#[67, 49]⟩, 2, 2, false)]

def vesselObjs (n : Nat) : List Obj := [.cells #[.int .i64 3, .int .i64 6, .slice (some ⟨n + 1 + 1 + 1, 0, none⟩) 3 3, .slice (some ⟨n + 1 + 1 + 1 + 1, 0, none⟩) 3 3] 45, .cells #[.int .i64 1] 3, .cells #[.int .i64 2] 3,
  .cells #[.string ⟨#[73, 78]⟩, .slice (some ⟨n + 1, 0, none⟩) 1 1, .string ⟨#[79, 85, 84]⟩, .slice (some ⟨n + 1 + 1, 0, none⟩) 1 1, .string ⟨#[83, 85, 73, 84, 69]⟩, .slice none 0 0] 49,
  .cells #[.string ⟨#[65, 49]⟩, .int .i64 0, .int .i64 2, .bool false, .string ⟨#[66, 49]⟩, .int .i64 1, .int .i64 4, .bool true, .string ⟨#[67, 49]⟩, .int .i64 2, .int .i64 2, .bool false] 79]

set_option maxHeartbeats 1000000 in
theorem vessel_any (w : World) :
    Calls Try.prog 41 #[] w fun e w' => ∃ cao bao, e = .returned (.agg #[.int .i64 3, .int .i64 6, .slice cao 3 3, .slice bao 3 3]) ∧ ShipAt w' cao bao 3 3 vcats vcabs ∧ Below w.heap.size w w' := by
  go_enter Try.func41, Try.ntmps41
  go_wp2
  refine bodyPost_ret (v := .agg #[.int .i64 3, .int .i64 6, .slice (some ⟨w.heap.size + 1 + 1 + 1, 0, none⟩) 3 3, .slice (some ⟨w.heap.size + 1 + 1 + 1 + 1, 0, none⟩) 3 3]) (by simp [results, Try.results41, go_sem]) rfl ⟨_, _, rfl, ⟨?_, ?_⟩, by go_grown⟩
  · have hf := heap_fold (vesselObjs w.heap.size) w
    exact SlAt.ofBlock [[.string ⟨#[73, 78]⟩, .slice (some ⟨w.heap.size + 1, 0, none⟩) 1 1], [.string ⟨#[79, 85, 84]⟩, .slice (some ⟨w.heap.size + 1 + 1, 0, none⟩) 1 1], [.string ⟨#[83, 85, 73, 84, 69]⟩, .slice none 0 0]]
      (l := vcats) (hf 3) rfl rfl (fun i hi => by
        have hi : i < 3 := hi
        match i, hi with
        | 0, _ => exact ⟨_, rfl, _, _, rfl, SlAt.ofBlock [[.int .i64 1]] (l := [1]) (hf 1) rfl rfl (fun i hi => by have hi : i < 1 := hi; match i, hi with | 0, _ => exact ⟨_, rfl, rfl⟩) (by simp) (by decide), (by decide : (⟨#[73, 78]⟩ : ByteArray).size ≤ maxLen)⟩
        | 1, _ => exact ⟨_, rfl, _, _, rfl, SlAt.ofBlock [[.int .i64 2]] (l := [2]) (hf 2) rfl rfl (fun i hi => by have hi : i < 1 := hi; match i, hi with | 0, _ => exact ⟨_, rfl, rfl⟩) (by simp) (by decide), (by decide : (⟨#[79, 85, 84]⟩ : ByteArray).size ≤ maxLen)⟩
        | 2, _ => exact ⟨_, rfl, none, 0, rfl, SlAt.nilOf _, (by decide : (⟨#[83, 85, 73, 84, 69]⟩ : ByteArray).size ≤ maxLen)⟩) (by simp) (by decide)
  · have hf := heap_fold (vesselObjs w.heap.size) w
    exact SlAt.ofBlock [[.string ⟨#[65, 49]⟩, .int .i64 0, .int .i64 2, .bool false], [.string ⟨#[66, 49]⟩, .int .i64 1, .int .i64 4, .bool true], [.string ⟨#[67, 49]⟩, .int .i64 2, .int .i64 2, .bool false]]
      (l := vcabs) (hf 4) rfl rfl (fun i hi => by
        have hi : i < 3 := hi
        match i, hi with
        | 0, _ => exact ⟨_, rfl, rfl, (by decide : (⟨#[65, 49]⟩ : ByteArray).size ≤ maxLen)⟩
        | 1, _ => exact ⟨_, rfl, rfl, (by decide : (⟨#[66, 49]⟩ : ByteArray).size ≤ maxLen)⟩
        | 2, _ => exact ⟨_, rfl, rfl, (by decide : (⟨#[67, 49]⟩ : ByteArray).size ≤ maxLen)⟩) (by simp) (by decide)

theorem v_ship : P.shipE 3 6 vcats vcabs = 0 := by decide +kernel
theorem v_20 : P.servesB 3 6 vcats vcabs 2 0 = true ∧ P.servesE 3 6 vcats vcabs 2 0 = 0 := by decide +kernel
theorem v_01 : P.servesB 3 6 vcats vcabs 0 1 = false ∧ P.servesE 3 6 vcats vcabs 0 1 = 0 := by decide +kernel
theorem v_order : P.orderL 3 6 vcats vcabs = [2, 1, 0] := by decide +kernel

set_option maxHeartbeats 1000000 in
theorem shipBegun_any (w : World) :
    Calls Try.prog 23 #[] w fun e w' => e = .returned (.bool true) ∧ Below w.heap.size w w' := by
  go_enter Try.func23, Try.ntmps23
  go_wp2_with fail
  refine (vessel_any _).mono ?_
  rintro e w1 ⟨c1, b1, rfl, s1, hb1⟩
  go_wp2_with fail
  refine (serves_any 3 6 _ _ 3 3 vcats vcabs 2 0 _ s1).mono ?_
  rintro e w2 ⟨rfl, hb2⟩
  rw [v_20.1, v_20.2]
  go_wp2_with fail
  refine (vessel_any _).mono ?_
  rintro e w3 ⟨c3, b3, rfl, s3, hb3⟩
  go_wp2_with fail
  refine (serves_any 3 6 _ _ 3 3 vcats vcabs 0 1 _ s3).mono ?_
  rintro e w4 ⟨rfl, hb4⟩
  rw [v_01.1, v_01.2]
  go_wp2_with fail
  refine (vessel_any _).mono ?_
  rintro e w5 ⟨c5, b5, rfl, s5, hb5⟩
  go_wp2_with fail
  refine (order_any 3 6 _ _ 3 3 vcats vcabs _ s5).mono ?_
  rintro e w6 ⟨v6, rfl, own6, hb6⟩
  rw [v_ship]
  rw [v_order] at own6
  obtain ⟨ao6, cap6, rfl, a6⟩ := OwnI.at own6
  go_wp2_with fail
  refine (vessel_any _).mono ?_
  rintro e w7 ⟨c7, b7, rfl, s7, hb7⟩
  go_wp2_with fail
  refine (shipCheck_any 3 6 _ _ 3 3 vcats vcabs _ s7).mono ?_
  rintro e w8 ⟨rfl, hb8⟩
  rw [v_ship]
  go_wp2_with fail
  have hl := heap_fold [.cells #[.int .i64 2, .int .i64 1, .int .i64 0] 3] w8 0
  have a9 : IntsAt (w8.alloc (.cells #[.int .i64 2, .int .i64 1, .int .i64 0] 3)) (some ⟨w8.heap.size, 0, none⟩) 3 [2, 1, 0] :=
    SlAt.ofBlock [[.int .i64 2], [.int .i64 1], [.int .i64 0]] (l := [2, 1, 0]) hl rfl rfl (fun i hi => by have hi : i < 3 := hi; match i, hi with | 0, _ => exact ⟨_, rfl, rfl⟩ | 1, _ => exact ⟨_, rfl, rfl⟩ | 2, _ => exact ⟨_, rfl, rfl⟩) (by simp) (by decide)
  refine (sameInts_any _ _ _ _ [2, 1, 0] [2, 1, 0] _ (SlAt.below RInt.mono a6 (bvia (bvia hb7 hb8) (by go_grown))) a9).mono ?_
  rintro e w9 ⟨rfl, hb9⟩
  go_wp2
  go_ret
  exact ⟨by simp, bvia (bvia (bvia (bvia (bvia (bvia (bvia (bvia (bvia hb1 hb2) hb3) hb4) hb5) hb6) hb7) hb8) (by go_grown)) hb9⟩

end Go.Proofs.Ytnadhpemmehedaa
