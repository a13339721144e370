/- Walks of the reference's IsMatching and DoLack, of what is a matching and of what lacks. -/
import Derived.Test.YtcifdkggigfnlabMatL
namespace Go.Proofs.Ytcifdkggigfnlab
open Go.RowKit Go.Maps Go.WideMaps
set_option linter.unusedSimpArgs false
set_option linter.unusedVariables false

theorem take_has {l : List Edge} {k : Nat} {x y : Int} {z : Edge} (hk : k < l.length) (hg : l[k] = (x, y)) : P.hasEdge (l.take (k + 1)) z = (P.hasEdge (l.take k) z || decide ((x, y) = z)) := by
  rw [List.take_succ_eq_append_getElem hk, hg]
  simp [P.hasEdge]

set_option maxHeartbeats 4000000 in
theorem isMatching_any (ao bo : Option Addr) (ca cb : Nat) (l m : List Edge) (w : World) (ha : EdgesAt w ao ca l) (hb : EdgesAt w bo cb m) (hm1 : ∀ x ∈ m, x ∈ l) (hm2 : m.Pairwise (fun a b => a.1 < b.1 ∧ a.2 ≠ b.2)) :
    Calls Try.prog 28 #[.slice ao l.length ca, .slice bo m.length cb] w fun e w' => e = .returned (.bool true) ∧ Below w.heap.size w w' := by
  have hle := ha.le
  have hmx := ha.max
  have hle' := hb.le
  have hmx' := hb.max
  unfold maxLen at hmx hmx'
  have HM1 : Aside (∀ x ∈ m, x ∈ l) := hm1
  have HM2 : Aside (∀ i j (hi : i < m.length) (hj : j < m.length), i < j → m[i].1 < m[j].1 ∧ m[i].2 ≠ m[j].2) := fun i j hi hj hij => List.pairwise_iff_getElem.1 hm2 i j hi hj hij
  clear hm1 hm2
  go_enter Try.func28, Try.ntmps28
  go_wp2
  go_loopg [5] m.length (fun g i wr => ∃ (k : Nat), k ≤ m.length ∧ g = m.length - k ∧ i = .int .i64 k ∧ Below w.heap.size w wr)
  case atStart => exact ⟨0, Nat.zero_le _, rfl, rfl, Below.refl _ _⟩
  case round =>
    obtain ⟨i, hi, rfl, rfl, hB⟩ := hrel
    by_cases hlt : i < m.length
    · obtain ⟨b2, o2, f', t', rfl, hbw', hd', hc0', hc1'⟩ := hb.get (Below.refl _ _) i hlt
      have hgi := getE hlt hd'
      have hmem : (f', t') ∈ l := HM1.out _ (by rw [← hgi]; exact List.getElem_mem hlt)
      have HGI : Aside (m[i] = (f', t')) := hgi
      have HL : Aside (P.hasEdge l (f', t') = true) := (hasEdge_iff _ _).2 hmem
      have hj1 : (i : Int) < (m.length : Int) := by omega
      have hj0 : (0 : Int) ≤ (i : Int) := by omega
      clear hd' hgi hmem
      go_wp2
      go_loopg [6, 7] l.length (fun g th kk wr => ∃ (k : Nat), k ≤ l.length ∧ g = l.length - k ∧ kk = .int .i64 k ∧ th = .bool (P.hasEdge (l.take k) (f', t')) ∧ Below w.heap.size w wr)
      case atStart => exact ⟨0, Nat.zero_le _, rfl, rfl, by simp [P.hasEdge], hB⟩
      case round =>
        clear hB
        obtain ⟨k, hk, rfl, rfl, rfl, hB⟩ := hrel
        have h0' := cellIn hB hc0'
        have h1' := cellIn hB hc1'
        by_cases hkl : k < l.length
        · obtain ⟨b1, o1, f, t, rfl, hbw, hd, hc0, hc1⟩ := ha.get hB k hkl
          have HT : Aside (P.hasEdge (l.take (k + 1)) (f', t') = (P.hasEdge (l.take k) (f', t') || decide ((f, t) = (f', t')))) := take_has hkl (getE hkl hd)
          clear hd
          generalize P.hasEdge (l.take k) (f', t') = th at HT
          have hi1 : (k : Int) < (l.length : Int) := by omega
          have hi3 : (0 : Int) ≤ (k : Int) := by omega
          cases th
          · by_cases e1 : f = f'
            · subst e1
              by_cases e2 : t = t'
              · subst e2
                go_wp2
                go_quiet (fail)
                go_wp2
                go_roundg (l.length - (k + 1))
                case measure => omega
                case rel => exact ⟨k + 1, by omega, rfl, by go_num, by rw [HT.out]; simp, below_drewN hB _⟩
              · have e2' : (t == t') = false := by simpa using e2
                go_wp2
                go_quiet (fail)
                go_wp2
                go_roundg (l.length - (k + 1))
                case measure => omega
                case rel => exact ⟨k + 1, by omega, rfl, by go_num, by rw [HT.out]; simp [e2], below_drewN hB _⟩
            · have e1' : (f == f') = false := by simpa using e1
              go_wp2
              go_quiet (fail)
              go_wp2
              go_roundg (l.length - (k + 1))
              case measure => omega
              case rel => exact ⟨k + 1, by omega, rfl, by go_num, by rw [HT.out]; simp [e1], below_drewN hB _⟩
          · go_wp2
            go_quiet (fail)
            go_wp2
            go_roundg (l.length - (k + 1))
            case measure => omega
            case rel => exact ⟨k + 1, by omega, rfl, by go_num, by rw [HT.out]; simp, below_drewN hB _⟩
        · obtain rfl : k = l.length := by omega
          rw [List.take_of_length_le (Nat.le_refl _), HL.out]
          by_cases hi0 : i = 0
          · subst hi0
            simp only [Nat.zero_mul, Nat.add_zero] at h0' h1'
            go_wp2
            go_quiet (fail)
            go_wp2
            go_loopg [8] 0 (fun g kk wx => kk = .int .i64 0 ∧ Below w.heap.size w wx)
            case atStart => exact ⟨rfl, below_drewN hB _⟩
            case round =>
              obtain ⟨rfl, hB⟩ := hrel
              go_wp2
              go_roundg (m.length - 1)
              case measure => omega
              case rel => exact ⟨1, by omega, rfl, by go_num, hB⟩
          · obtain ⟨j, rfl⟩ : ∃ j, i = j + 1 := ⟨i - 1, by omega⟩
            obtain ⟨b3, o3, f3, t3, e3, _, hd3, hc3, hc4⟩ := hb.get hB j (by omega)
            simp only [Option.some.injEq, Addr.mk.injEq] at e3
            obtain ⟨rfl, rfl, _⟩ := e3
            have hne := (HM2.out j (j + 1) (by omega) hlt (by omega)).1
            rw [getE (by omega) hd3, HGI.out] at hne
            have hne' : decide (f' ≤ f3) = false := by simp; simpa using hne
            have hq1 : (j : Int) + 1 < (m.length : Int) := by omega
            have hq2 : (j : Int) < (m.length : Int) := by omega
            have hq0 : (0 : Int) ≤ (j : Int) + 1 := by omega
            have hqp : (0 : Int) < (j : Int) + 1 := by omega
            clear hd3 hne
            go_wp2
            go_quiet (fail)
            go_wp2
            go_loopg [8] (j + 1) (fun g kk wx => ∃ (k : Nat), k ≤ (j + 1) ∧ g = (j + 1) - k ∧ kk = .int .i64 k ∧ Below w.heap.size w wx)
            case atStart => exact ⟨0, Nat.zero_le _, rfl, rfl, below_drewN hB _⟩
            case round =>
              clear hB h0' h1'
              obtain ⟨k, hk3, rfl, rfl, hB⟩ := hrel
              have h0' := cellIn hB hc0'
              have h1' := cellIn hB hc1'
              by_cases hki : k < (j + 1)
              · obtain ⟨b3, o3, f3, t3, e3, _, hd3, hc3, hc4⟩ := hb.get hB k (by omega)
                simp only [Option.some.injEq, Addr.mk.injEq] at e3
                obtain ⟨rfl, rfl, _⟩ := e3
                have hne := (HM2.out k (j + 1) (by omega) hlt hki).2
                rw [getE (by omega) hd3, HGI.out] at hne
                have hne' : (t3 == t') = false := by simpa using hne
                clear hd3 hne
                have hi1 : (k : Int) < (m.length : Int) := by omega
                have hi3 : (0 : Int) ≤ (k : Int) := by omega
                go_wp2
                go_quiet (fail)
                go_wp2
                go_roundg ((j + 1) - (k + 1))
                case measure => omega
                case rel => exact ⟨k + 1, by omega, rfl, by go_num, below_drewN hB _⟩
              · have hke : k = j + 1 := by omega
                subst hke
                go_wp2
                go_roundg (m.length - (j + 1 + 1))
                case measure => omega
                case rel => exact ⟨j + 1 + 1, by omega, rfl, by go_num, hB⟩
    · obtain rfl : i = m.length := by omega
      go_wp2
      go_ret
      exact ⟨rfl, hB⟩

end Go.Proofs.Ytcifdkggigfnlab
