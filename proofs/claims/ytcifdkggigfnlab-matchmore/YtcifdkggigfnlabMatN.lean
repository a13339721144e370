/- The walk of the reference's DoLack, of left ones that lack. -/
import Derived.Test.YtcifdkggigfnlabMatM
namespace Go.Proofs.Ytcifdkggigfnlab
open Go.RowKit Go.Maps Go.WideMaps
set_option linter.unusedSimpArgs false
set_option linter.unusedVariables false

theorem hasInt_snoc (T : List Int) (y z : Int) : P.hasInt (T ++ [y]) z = (P.hasInt T z || decide (y = z)) := by simp [P.hasInt]

theorem met_new (w : World) : (w.alloc (.cells #[.bool false, .bool false, .bool false, .bool false, .bool false, .bool false, .bool false, .bool false, .bool false, .bool false, .bool false, .bool false, .bool false, .bool false, .bool false, .bool false] 76)).rowIs w.heap.size 76 16 (fun r => .bool (P.hasInt [] r)) :=
  World.rowIs_alloc w _ _ _ (fun i hi => by
    have hi : i < 16 := hi
    match i, hi with
    | 0, _ => rfl | 1, _ => rfl | 2, _ => rfl | 3, _ => rfl | 4, _ => rfl | 5, _ => rfl | 6, _ => rfl | 7, _ => rfl | 8, _ => rfl | 9, _ => rfl | 10, _ => rfl | 11, _ => rfl | 12, _ => rfl | 13, _ => rfl | 14, _ => rfl | 15, _ => rfl | n + 16, h => exact absurd h (by omega))

set_option maxRecDepth 10000 in
set_option maxHeartbeats 4000000 in
theorem doLack_any (ao bo : Option Addr) (ca cb : Nat) (l : List Edge) (K : List Int) (N : Nat) (w : World) (hN : N ≤ 16) (ha : EdgesAt w ao ca l) (hb : IntsAt w bo cb K) (hE : ∀ x ∈ l, 0 ≤ x.2 ∧ x.2 < 16) (hK : Lacks l N K) :
    Calls Try.prog 24 #[.int .i64 N, .slice ao l.length ca, .slice bo K.length cb] w fun e w' => e = .returned (.bool true) ∧ Below w.heap.size w w' := by
  have hle := ha.le
  have hmx := ha.max
  have hle' := hb.le
  have hmx' := hb.max
  unfold maxLen at hmx hmx'
  obtain ⟨A, hA1, hA2, hA3⟩ := hK.few
  have HA : Aside (∀ x q : Int, (x, q) ∈ l → x ∈ K → q ∈ A) := hA3
  have HE : Aside (∀ x ∈ l, 0 ≤ x.2 ∧ x.2 < 16) := hE
  have HR : Aside (∀ k ∈ K, 0 ≤ k ∧ k < (N : Int)) := hK.rng
  have HU : Aside (∀ i j (hi : i < K.length) (hj : j < K.length), i < j → K[i] < K[j]) := fun i j hi hj hij => List.pairwise_iff_getElem.1 hK.rise i j hi hj hij
  clear hA3 hE hK hA1
  go_enter Try.func24, Try.ntmps24
  go_wp2
  go_loopg [8, 9] K.length (fun g nv iv wr => ∃ (i : Nat) (T : List Int), i ≤ K.length ∧ g = K.length - i ∧ iv = .int .i64 i ∧ nv = .int .i64 T.length ∧ T.Nodup ∧ (∀ q ∈ T, q ∈ A) ∧ (∀ q ∈ T, 0 ≤ q ∧ q < 16) ∧ wr.rowIs w.heap.size 76 16 (fun r => .bool (P.hasInt T r)) ∧ Below w.heap.size w wr)
  case atStart => exact ⟨0, [], Nat.zero_le _, rfl, rfl, rfl, List.nodup_nil, by simp, by simp, met_new w, by go_grown⟩
  case round =>
    obtain ⟨i, T, hi, rfl, rfl, rfl, hT1, hT2, hT3, hrow, hB⟩ := hrel
    have HT : Aside (T.Nodup ∧ (∀ q ∈ T, q ∈ A) ∧ ∀ q ∈ T, 0 ≤ q ∧ q < 16) := ⟨hT1, hT2, hT3⟩
    have HW : Aside (wr.rowIs w.heap.size 76 16 (fun r => .bool (P.hasInt T r))) := hrow
    clear hT1 hT2 hT3 hrow
    by_cases hlt : i < K.length
    · obtain ⟨b2, o2, x, rfl, hbw', hd', hc0⟩ := hb.get (Below.refl _ _) i hlt
      have hgi := getI hlt hd'
      have hxr := HR.out x (by rw [← hgi]; exact List.getElem_mem hlt)
      have HXK : Aside (x ∈ K) := by show _ ∈ _; rw [← hgi]; exact List.getElem_mem hlt
      have HGI : Aside (K[i] = x) := hgi
      clear hd' hgi
      have hc0w := cellIn hB hc0
      have n1 : decide (x < 0) = false := by simp; omega
      have n2 : decide ((N : Int) ≤ x) = false := by simp; omega
      by_cases hi0 : i = 0
      · subst hi0
        simp only [Nat.add_zero] at hc0 hc0w
        go_wp2
        go_quiet (fail)
        go_wp2
        go_loopg [8, 10] l.length (fun g nv kv wx => ∃ (k : Nat) (T : List Int), k ≤ l.length ∧ g = l.length - k ∧ kv = .int .i64 k ∧ nv = .int .i64 T.length ∧ T.Nodup ∧ (∀ q ∈ T, q ∈ A) ∧ (∀ q ∈ T, 0 ≤ q ∧ q < 16) ∧ wx.rowIs w.heap.size 76 16 (fun r => .bool (P.hasInt T r)) ∧ Below w.heap.size w wx)
        case atStart => exact ⟨0, T, Nat.zero_le _, rfl, rfl, rfl, HT.out.1, HT.out.2.1, HT.out.2.2, HW.out.of_block rfl, below_drewN hB _⟩
        case round =>
          clear HT HW hB hc0w 
          obtain ⟨k, T, hk, rfl, rfl, rfl, hT1, hT2, hT3, hrow, hB⟩ := hrel
          have HT : Aside (T.Nodup ∧ (∀ q ∈ T, q ∈ A) ∧ ∀ q ∈ T, 0 ≤ q ∧ q < 16) := ⟨hT1, hT2, hT3⟩
          have HW : Aside (wr.rowIs w.heap.size 76 16 (fun r => .bool (P.hasInt T r))) := hrow
          have hTl : T.length ≤ 16 := pigeon 16 T hT1 (fun q hq => by have := hT3 q hq; omega)
          have hrl := hrow.lt
          clear hT1 hT2 hT3
          have hc0w := cellIn hB hc0
          by_cases hkl : k < l.length
          · obtain ⟨b1, o1, f, t, rfl, hbw, hd, hc2, hc3⟩ := ha.get hB k hkl
            have hmem : (f, t) ∈ l := by rw [← getE hkl hd]; exact List.getElem_mem hkl
            have htr := HE.out _ hmem
            simp only at htr
            have HMEM : Aside ((f, t) ∈ l) := hmem
            clear hd hmem
            obtain ⟨t, rfl⟩ : ∃ t' : Nat, t = t' := ⟨t.toNat, by omega⟩
            have hi1 : (k : Int) < (l.length : Int) := by omega
            have hi3 : (0 : Int) ≤ (k : Int) := by omega
            have hq1 : (0 : Int) < (K.length : Int) := by omega
            have hq0 : (0 : Int) ≤ (0 : Int) := by omega
            have ht1 : (t : Int) < 16 := by omega
            have ht0 : (0 : Int) ≤ (t : Int) := by omega
            have hmet := hrow.cell (i := t) (by omega)
            have hfr := hrow.frozen t
            clear hrow
            by_cases e1 : f = x
            · have e1' : (f == x) = true := by simpa using e1
              cases hh : P.hasInt T t
              · rw [hh] at hmet
                have HNT : Aside (¬ (t : Int) ∈ T) := fun h => by rw [(hasInt_iff _ _).2 h] at hh; cases hh
                have HTA : Aside ((t : Int) ∈ A) := HA.out f t HMEM.out (by rw [e1]; exact HXK.out)
                clear e1
                go_wp2
                go_quiet (fail)
                go_wp2
                go_roundg (l.length - (k + 1))
                case measure => omega
                case rel =>
                  refine ⟨k + 1, T ++ [(t : Int)], by omega, rfl, by go_num, by simp, nodup_snoc HT.out.1 HNT.out, fun q hq => ?_, fun q hq => ?_, ?_, ?_⟩
                  · rcases List.mem_append.1 hq with h | h
                    · exact HT.out.2.1 q h
                    · simp at h; rw [h]; exact HTA.out
                  · rcases List.mem_append.1 hq with h | h
                    · exact HT.out.2.2 q h
                    · simp at h; omega
                  · refine World.rowIs.congr ((HW.out.of_block (w' := wr.drewN _) rfl).set t (.bool true)) (fun r hr => ?_)
                    rw [hasInt_snoc]
                    by_cases e : r = t
                    · rw [if_pos e, e]; simp
                    · rw [if_neg e]
                      have : decide ((t : Int) = (r : Int)) = false := by simp; omega
                      rw [this, Bool.or_false]
                  · exact (below_drewN hB _).setCell (by simp) _
              · rw [hh] at hmet
                clear e1
                go_wp2
                go_quiet (fail)
                go_wp2
                go_roundg (l.length - (k + 1))
                case measure => omega
                case rel => exact ⟨k + 1, T, by omega, rfl, by go_num, rfl, HT.out.1, HT.out.2.1, HT.out.2.2, HW.out.of_block rfl, below_drewN hB _⟩
            · have e1' : (f == x) = false := by simpa using e1
              go_wp2
              go_quiet (fail)
              go_wp2
              go_roundg (l.length - (k + 1))
              case measure => omega
              case rel => exact ⟨k + 1, T, by omega, rfl, by go_num, rfl, HT.out.1, HT.out.2.1, HT.out.2.2, HW.out.of_block rfl, below_drewN hB _⟩
          · obtain rfl : k = l.length := by omega
            clear hrow
            go_wp2
            go_roundg (K.length - (1))
            case measure => omega
            case rel => exact ⟨1, T, by omega, rfl, by go_num, rfl, HT.out.1, HT.out.2.1, HT.out.2.2, HW.out, hB⟩
      · obtain ⟨j, rfl⟩ : ∃ j, i = j + 1 := ⟨i - 1, by omega⟩
        obtain ⟨b3, o3, x3, e3, _, hd3, hc3⟩ := hb.get hB j (by omega)
        simp only [Option.some.injEq, Addr.mk.injEq] at e3
        obtain ⟨rfl, rfl, _⟩ := e3
        have hne := HU.out j (j + 1) (by omega) hlt (by omega)
        rw [getI (by omega) hd3, HGI.out] at hne
        have hne' : decide (x ≤ x3) = false := by simp; omega
        have hw1 : (j : Int) + 1 < (K.length : Int) := by omega
        have hw2 : (j : Int) < (K.length : Int) := by omega
        have hw0 : (0 : Int) ≤ (j : Int) + 1 := by omega
        have hwp : (0 : Int) < (j : Int) + 1 := by omega
        clear hd3 hne
        go_wp2
        go_quiet (fail)
        go_wp2
        go_loopg [8, 10] l.length (fun g nv kv wx => ∃ (k : Nat) (T : List Int), k ≤ l.length ∧ g = l.length - k ∧ kv = .int .i64 k ∧ nv = .int .i64 T.length ∧ T.Nodup ∧ (∀ q ∈ T, q ∈ A) ∧ (∀ q ∈ T, 0 ≤ q ∧ q < 16) ∧ wx.rowIs w.heap.size 76 16 (fun r => .bool (P.hasInt T r)) ∧ Below w.heap.size w wx)
        case atStart => exact ⟨0, T, Nat.zero_le _, rfl, rfl, rfl, HT.out.1, HT.out.2.1, HT.out.2.2, HW.out.of_block rfl, below_drewN hB _⟩
        case round =>
          clear HT HW hB hc0w hc3
          obtain ⟨k, T, hk, rfl, rfl, rfl, hT1, hT2, hT3, hrow, hB⟩ := hrel
          have HT : Aside (T.Nodup ∧ (∀ q ∈ T, q ∈ A) ∧ ∀ q ∈ T, 0 ≤ q ∧ q < 16) := ⟨hT1, hT2, hT3⟩
          have HW : Aside (wr.rowIs w.heap.size 76 16 (fun r => .bool (P.hasInt T r))) := hrow
          have hTl : T.length ≤ 16 := pigeon 16 T hT1 (fun q hq => by have := hT3 q hq; omega)
          have hrl := hrow.lt
          clear hT1 hT2 hT3
          have hc0w := cellIn hB hc0
          by_cases hkl : k < l.length
          · obtain ⟨b1, o1, f, t, rfl, hbw, hd, hc2, hc3⟩ := ha.get hB k hkl
            have hmem : (f, t) ∈ l := by rw [← getE hkl hd]; exact List.getElem_mem hkl
            have htr := HE.out _ hmem
            simp only at htr
            have HMEM : Aside ((f, t) ∈ l) := hmem
            clear hd hmem
            obtain ⟨t, rfl⟩ : ∃ t' : Nat, t = t' := ⟨t.toNat, by omega⟩
            have hi1 : (k : Int) < (l.length : Int) := by omega
            have hi3 : (0 : Int) ≤ (k : Int) := by omega
            have hq1 : (j : Int) + 1 < (K.length : Int) := by omega
            have hq0 : (0 : Int) ≤ (j : Int) + 1 := by omega
            have ht1 : (t : Int) < 16 := by omega
            have ht0 : (0 : Int) ≤ (t : Int) := by omega
            have hmet := hrow.cell (i := t) (by omega)
            have hfr := hrow.frozen t
            clear hrow
            by_cases e1 : f = x
            · have e1' : (f == x) = true := by simpa using e1
              cases hh : P.hasInt T t
              · rw [hh] at hmet
                have HNT : Aside (¬ (t : Int) ∈ T) := fun h => by rw [(hasInt_iff _ _).2 h] at hh; cases hh
                have HTA : Aside ((t : Int) ∈ A) := HA.out f t HMEM.out (by rw [e1]; exact HXK.out)
                clear e1
                go_wp2
                go_quiet (fail)
                go_wp2
                go_roundg (l.length - (k + 1))
                case measure => omega
                case rel =>
                  refine ⟨k + 1, T ++ [(t : Int)], by omega, rfl, by go_num, by simp, nodup_snoc HT.out.1 HNT.out, fun q hq => ?_, fun q hq => ?_, ?_, ?_⟩
                  · rcases List.mem_append.1 hq with h | h
                    · exact HT.out.2.1 q h
                    · simp at h; rw [h]; exact HTA.out
                  · rcases List.mem_append.1 hq with h | h
                    · exact HT.out.2.2 q h
                    · simp at h; omega
                  · refine World.rowIs.congr ((HW.out.of_block (w' := wr.drewN _) rfl).set t (.bool true)) (fun r hr => ?_)
                    rw [hasInt_snoc]
                    by_cases e : r = t
                    · rw [if_pos e, e]; simp
                    · rw [if_neg e]
                      have : decide ((t : Int) = (r : Int)) = false := by simp; omega
                      rw [this, Bool.or_false]
                  · exact (below_drewN hB _).setCell (by simp) _
              · rw [hh] at hmet
                clear e1
                go_wp2
                go_quiet (fail)
                go_wp2
                go_roundg (l.length - (k + 1))
                case measure => omega
                case rel => exact ⟨k + 1, T, by omega, rfl, by go_num, rfl, HT.out.1, HT.out.2.1, HT.out.2.2, HW.out.of_block rfl, below_drewN hB _⟩
            · have e1' : (f == x) = false := by simpa using e1
              go_wp2
              go_quiet (fail)
              go_wp2
              go_roundg (l.length - (k + 1))
              case measure => omega
              case rel => exact ⟨k + 1, T, by omega, rfl, by go_num, rfl, HT.out.1, HT.out.2.1, HT.out.2.2, HW.out.of_block rfl, below_drewN hB _⟩
          · obtain rfl : k = l.length := by omega
            clear hrow
            go_wp2
            go_roundg (K.length - (j + 1 + 1))
            case measure => omega
            case rel => exact ⟨j + 1 + 1, T, by omega, rfl, by go_num, rfl, HT.out.1, HT.out.2.1, HT.out.2.2, HW.out, hB⟩
    · obtain rfl : i = K.length := by omega
      have hTl := subLen T A HT.out.1 HT.out.2.1
      go_wp2
      go_ret
      exact ⟨ret_bool (by rw [decide_eq_true_iff]; omega), hB⟩

end Go.Proofs.Ytcifdkggigfnlab
