/- Walks of SameFolio; the walk of FolioCancel. -/
import Derived.Test.YtagjlckmemmflacFolH
namespace Go.Proofs.Ytagjlckmemmflac
open Go.RowKit
set_option linter.unusedSimpArgs false
set_option linter.unusedVariables false

theorem drop_eqN {a b : List Ent} {s t : Ent} {k : Nat} (ha : a.drop k = s :: a.drop (k + 1)) (hb : b.drop k = t :: b.drop (k + 1)) : a.drop k = b.drop k ↔ s = t ∧ a.drop (k + 1) = b.drop (k + 1) := by
  rw [ha, hb, List.cons.injEq]

set_option maxHeartbeats 1000000 in
theorem sameFolio_any (ao bo : Option Addr) (ca cb : Nat) (a b : List Ent) (w : World) (ha : EntsAt w ao ca a) (hb : EntsAt w bo cb b) :
    Calls Try.prog 28 #[.slice ao a.length ca, .slice bo b.length cb] w fun e w' => e = .returned (.bool (decide (a = b))) ∧ Below w.heap.size w w' := by
  have hle := ha.le
  have hmx := ha.max
  have hle' := hb.le
  have hmx' := hb.max
  unfold maxLen at hmx hmx'
  by_cases hlen : a.length = b.length
  · have HL : Aside (a.length = b.length) := hlen
    have hne : ((a.length : Int) != (b.length : Int)) = false := by simp [hlen]
    go_enter Try.func28, Try.ntmps28
    clear hlen
    go_wp2
    go_loopg [5] a.length (fun g i wr => ∃ (k : Nat), k ≤ a.length ∧ g = a.length - k ∧ i = .int .i64 k ∧ (a.drop k = b.drop k ↔ a = b) ∧ Below w.heap.size w wr)
    case atStart => exact ⟨0, Nat.zero_le _, rfl, rfl, Iff.rfl, Below.refl _ _⟩
    case round =>
      obtain ⟨k, hk, rfl, rfl, hP, hB⟩ := hrel
      have hBs := hB.size
      have HP : Aside (a.drop k = b.drop k ↔ a = b) := hP
      clear hP
      by_cases hlt : k < a.length
      · have hlt' : k < b.length := by have := HL.out; omega
        obtain ⟨b1, o1, x, y, z, rfl, hbw, hd, hc0, hc1, hc2⟩ := EntsAt.get ha hB k hlt
        obtain ⟨b2, o2, x', y', z', rfl, hbw', hd', hc0', hc1', hc2'⟩ := EntsAt.get hb hB k hlt'
        have HE : Aside (a.drop k = b.drop k ↔ (x, y, z) = (x', y', z') ∧ a.drop (k + 1) = b.drop (k + 1)) := drop_eqN hd hd'
        clear hd hd'
        have hi1 : (k : Int) < (a.length : Int) := by omega
        have hi2 : (k : Int) < (b.length : Int) := by omega
        have hi3 : (0 : Int) ≤ (k : Int) := by omega
        by_cases hall : x = x' ∧ y = y' ∧ z = z'
        · obtain ⟨rfl, rfl, rfl⟩ := hall
          have HQ : Aside (a.drop (k + 1) = b.drop (k + 1) ↔ a = b) := by show _ ↔ _; rw [← HP.out, HE.out]; simp
          clear HE HP
          go_wp2
          go_quiet (fail)
          go_wp2
          go_roundg (a.length - (k + 1))
          case measure => omega
          case rel => exact ⟨k + 1, by omega, rfl, by go_num, HQ.out, below_drewN hB _⟩
        · have HN : Aside (decide (a = b) = false) := by
            rw [decide_eq_false_iff_not]; intro h; have := (HE.out.1 (HP.out.2 h)).1; simp at this; exact hall this
          clear HE HP
          by_cases e1 : x = x'
          · by_cases e2 : y = y'
            · have e3 : ¬ z = z' := fun h => hall ⟨e1, e2, h⟩
              subst e1 e2
              clear hall
              have e3' : (z == z') = false := by simpa using e3
              go_wp2
              go_quiet (fail)
              go_wp2
              go_ret
              exact ⟨ret_bool HN.out.symm, below_drewN hB _⟩
            · subst e1
              clear hall
              have e2' : (y == y') = false := by simpa using e2
              go_wp2
              go_quiet (fail)
              go_wp2
              go_ret
              exact ⟨ret_bool HN.out.symm, below_drewN hB _⟩
          · clear hall
            have e1' : (x == x') = false := by simpa using e1
            go_wp2
            go_quiet (fail)
            go_wp2
            go_ret
            exact ⟨ret_bool HN.out.symm, below_drewN hB _⟩
      · have : k = a.length := by omega
        subst this
        go_wp2
        go_ret
        have hP := HP.out
        refine ⟨ret_bool ?_, hB⟩
        rw [List.drop_of_length_le (Nat.le_refl _), List.drop_of_length_le (by rw [HL.out]; exact Nat.le_refl _)] at hP
        simp [hP.1 rfl]
  · have hne : ((a.length : Int) != (b.length : Int)) = true := by rw [bne_iff_ne]; omega
    go_enter Try.func28, Try.ntmps28
    go_wp2
    go_ret
    exact ⟨ret_bool (by rw [eq_comm, decide_eq_false_iff_not]; intro h; exact hlen (by rw [h])), Below.refl _ _⟩

theorem Try.sizeEntry : (Try.prog.info? 44).map (fun i => i.size) = some 3 := by kernel_rfl
theorem run_sizeEntry (wx : World) : (sizeOf 44).run Try.prog wx = .ok 3 wx := by
  have h := Try.sizeEntry
  cases hi : Try.prog.info? 44 with
  | none => rw [hi] at h; cases h
  | some i =>
    rw [hi] at h
    simp only [Option.map_some, Option.some.injEq] at h
    simp [sizeOf, typeInfo, hi, h]
/-- 'l[:n]' -/
theorem run_head (ao : Option Addr) (m cap n : Nat) (hn : n ≤ cap) (wx : World) : (Instr.slice 42 (.slice ao m cap) none (some (.int .i64 (n : Int))) none).run Try.prog wx = .ok (.slice ao n cap) wx := by
  simp [Instr.slice, run_underlying Try.underlying42, Instr.sliceBounds, Instr.sliceBound, asIntOf, run_sizeEntry, hn]
  intro _
  cases ao <;> simp [Addr.add]
theorem EntsAt.head {w : World} {ao : Option Addr} {cap : Nat} {a b : List Ent} (h : EntsAt w ao cap (a ++ b)) : EntsAt w ao cap a := by
  have hle := h.le
  rw [List.length_append] at hle
  refine ⟨by omega, h.max, h.nil, fun h0 => ?_⟩
  obtain ⟨bb, off, rfl, hlt, hc⟩ := h.cells (by rw [List.length_append]; omega)
  refine ⟨bb, off, rfl, hlt, fun i hi => ?_⟩
  have := hc i (by rw [List.length_append]; omega)
  rwa [List.getElem_append_left hi] at this

/-- Penalties, and what was paid. -/
def P.isPP (x : Ent) : Bool := decide (x.2.1 = 2) || decide (x.2.1 = 3)
theorem entE_kind {x : Ent} {day : Int} (h : P.entE x day = 0) : 1 ≤ x.2.1 ∧ x.2.1 ≤ 4 := by
  unfold P.entE at h
  split at h
  · rename_i h0
    unfold P.entB at h0
    split at h0
    · rename_i hh
      simp [P.btw] at hh
      exact hh
    · omega
  · omega
theorem entsE_parts : ∀ {l : List Ent} {day : Int}, P.entsE day l = 0 → P.ftot P.all l = P.ftot P.isFare l + P.ftot P.isPP l := by
  intro l
  induction l with
  | nil => intro _ _; rfl
  | cons y r ih =>
    intro day h
    rw [P.entsE] at h
    split at h
    · rename_i h0
      have hk := entE_kind h0
      rw [P.ftot, P.ftot, P.ftot, ih h]
      rcases (show y.2.1 = 1 ∨ y.2.1 = 2 ∨ y.2.1 = 3 ∨ y.2.1 = 4 by omega) with hh | hh | hh | hh <;> simp [P.isFare, P.isPP, P.all, hh] <;> omega
    · omega
theorem ftot_worth (l : List Ent) : P.ftot P.all (P.worth l) = P.ftot P.all l := by
  induction l with
  | nil => rfl
  | cons x r ih =>
    unfold P.worth at ih ⊢
    rw [List.filter_cons]
    split
    · rw [P.ftot, P.ftot, ih]
    · rename_i h
      have : x.2.2 = 0 := by simpa using h
      rw [P.ftot, ih, this]
      simp
theorem come_tot {l : List Ent} {day pen : Int} (h : P.folE l = 0) : P.ftot P.all (l ++ P.come l day pen) = max 0 (pen + P.ftot P.isPP l) := by
  rw [ftot_append, P.come, ftot_worth, entsE_parts (folE_ents h)]
  simp [P.ftot]
  omega
theorem can_nil {l : List Ent} {day pen : Int} (h : ¬ P.canE l day pen = 0) : P.can l day pen = [] := by
  unfold P.canE at h
  unfold P.can
  repeat' split at h
  all_goals simp_all [P.plus]
theorem can_some {l : List Ent} {day pen : Int} (h : P.canE l day pen = 0) : P.folE l = 0 ∧ 0 ≤ pen ∧ pen ≤ 100000000 ∧ P.folE (l ++ P.come l day pen) = 0 ∧ P.can l day pen = l ++ P.come l day pen := by
  unfold P.canE at h
  split at h
  · rename_i h1
    split at h
    · omega
    · rename_i h2
      refine ⟨h1, by omega, by omega, h, ?_⟩
      rw [P.can, if_pos h1, if_neg h2, plus_pos h]
  · contradiction

set_option maxHeartbeats 4000000 in
theorem folioCancel_walk (ao : Option Addr) (cap : Nat) (l : List Ent) (day pen : Int) (w : World) (hl : EntsAt w ao cap l) :
    Calls Try.prog 7 #[.slice ao l.length cap, .int .i64 day, .int .i64 pen] w fun e w' => e = .returned (.bool true) ∧ Below w.heap.size w w' := by
  have hle := hl.le
  have hmx := hl.max
  unfold maxLen at hmx
  by_cases he : P.canE l day pen = 0
  rotate_left
  · have he2 : (P.canE l day pen == 0) = false := by simpa using he
    go_enter Try.func7, Try.ntmps7
    go_wp2_with fail
    refine (cancel_any ao cap l day pen _ hl).mono ?_
    rintro e w1 ⟨v1, rfl, hown1, hb1⟩
    rw [can_nil he] at hown1
    obtain ⟨ao1, cap1, rfl, -⟩ : ∃ ao cap, v1 = .slice ao 0 cap ∧ EntsAt w1 ao cap [] := hown1.at
    clear hown1
    go_wp2_with fail
    refine (folioBegun_any _).mono ?_
    rintro e w2 ⟨rfl, hb2⟩
    go_wp2
    go_ret
    exact ⟨rfl, bvia hb1 hb2⟩
  obtain ⟨hz, hp0, hp1, hzz, hcan⟩ := can_some he
  have HT : Aside (P.ftot P.all (l ++ P.come l day pen) = max 0 (pen + P.ftot P.isPP l)) := come_tot hz
  have h12 := folE_len hz
  have HA : Aside (∀ x ∈ l, -100000000 ≤ x.2.2 ∧ x.2.2 ≤ 100000000) := folE_amt hz
  obtain ⟨L, hL⟩ : ∃ L, l ++ P.come l day pen = L := ⟨_, rfl⟩
  have HL : Aside (l.length ≤ L.length) := by show _ ≤ _; rw [← hL, List.length_append]; omega
  have HH : Aside (∀ wx bo bc, EntsAt wx bo bc L → EntsAt wx bo bc l) := fun wx bo bc h => by rw [← hL] at h; exact EntsAt.head h
  rw [hL] at HT hzz hcan
  clear hL hz
  have HC : Aside (P.can l day pen = L) := hcan
  clear hcan
  go_enter Try.func7, Try.ntmps7
  go_wp2_with fail
  refine (cancel_any ao cap l day pen _ hl).mono ?_
  rintro e w1 ⟨v1, rfl, hown1, hb1⟩
  rw [HC.out] at hown1
  rw [he]
  obtain ⟨ao1, cap1, rfl, s1⟩ := hown1.at
  clear hown1
  have hle1 := s1.le
  have hmx1 := s1.max
  unfold maxLen at hmx1
  go_wp2_with fail
  refine (folioBegun_any _).mono ?_
  rintro e w2 ⟨rfl, hb2⟩
  have hB2 := bvia hb1 hb2
  have s2 := SlAt.below REnt.mono s1 hb2
  clear hb1 hb2 s1
  go_wp2_with fail
  refine (owed_any _ _ L _ s2).mono ?_
  rintro e w3 ⟨rfl, hb3⟩
  have hB3 := bvia hB2 hb3
  have s3 := SlAt.below REnt.mono s2 hb3
  clear hb3 hB2 s2
  rw [P.owed, if_pos hzz, sumL_ftot, HT.out, hzz]
  have hlL := HL.out
  have hnl : ¬ (L.length < l.length) := by omega
  have hni : ¬ ((L.length : Int) < (l.length : Int)) := by omega
  have hsl := run_head ao1 L.length cap1 l.length (by omega)
  have HR : Aside (∀ k, k ≤ l.length → -100000000 * (k : Int) ≤ P.ftot P.isPP (l.take k) ∧ P.ftot P.isPP (l.take k) ≤ 100000000 * (k : Int)) := by
    intro k hk
    have := ftot_bound P.isPP (l.take k) (fun x hx => HA.out x (List.mem_of_mem_take hx))
    rw [List.length_take, Nat.min_eq_left hk] at this
    exact this
  go_wp2_with fail
  refine (sameFolio_any ao1 ao cap1 cap l l _ (HH.out _ _ _ s3) (SlAt.below REnt.mono hl hB3)).mono ?_
  rintro e w4 ⟨rfl, hb4⟩
  rw [show decide (l = l) = true by simp]
  have hB4 := bvia hB3 hb4
  clear hb4 hB3 s3
  go_wp2
  go_loopg [10, 11] l.length (fun g v i wr => ∃ (k : Nat), k ≤ l.length ∧ g = l.length - k ∧ i = .int .i64 k ∧ v = .int .i64 (pen + P.ftot P.isPP (l.take k)) ∧ Below w.heap.size w wr)
  case atStart => exact ⟨0, Nat.zero_le _, rfl, rfl, by simp [P.ftot], hB4⟩
  case round =>
    obtain ⟨k, hk, rfl, rfl, rfl, hB⟩ := hrel
    by_cases hlt : k < l.length
    · obtain ⟨b, off, x, y, z, rfl, hbl, hd, e0, e1, e2⟩ := EntsAt.get hl hB k hlt
      have hr := HR.out k hk
      have hz2 : -100000000 ≤ z ∧ z ≤ 100000000 := HA.out _ (memA hlt hd)
      have HS : Aside (P.ftot P.isPP (l.take (k + 1)) = P.ftot P.isPP (l.take k) + (if P.isPP (x, y, z) = true then z else 0)) := by
        show _ = _
        rw [List.take_succ_eq_append_getElem hlt, getA hlt hd, ftot_append]
        simp [P.ftot]
      clear hd
      generalize P.ftot P.isPP (l.take k) = S at HS hr
      by_cases hy : y = 2
      · subst hy
        have HS2 : Aside (P.ftot P.isPP (l.take (k + 1)) = S + z) := by show _ = _; rw [HS.out]; simp [P.isPP]
        go_wp2
        go_roundg (l.length - (k + 1))
        case measure => omega
        case rel => exact ⟨k + 1, by omega, rfl, by go_num, by rw [HS2.out, Int.add_assoc], hB⟩
      · by_cases hy3 : y = 3
        · subst hy3
          have HS2 : Aside (P.ftot P.isPP (l.take (k + 1)) = S + z) := by show _ = _; rw [HS.out]; simp [P.isPP]
          go_wp2
          go_roundg (l.length - (k + 1))
          case measure => omega
          case rel => exact ⟨k + 1, by omega, rfl, by go_num, by rw [HS2.out, Int.add_assoc], hB⟩
        · have hy2 : (y == 2) = false := by simpa using hy
          have hy4 : (y == 3) = false := by simpa using hy3
          have HS2 : Aside (P.ftot P.isPP (l.take (k + 1)) = S) := by show _ = _; rw [HS.out]; simp [P.isPP, hy, hy3]
          go_wp2
          go_roundg (l.length - (k + 1))
          case measure => omega
          case rel => exact ⟨k + 1, by omega, rfl, by go_num, by rw [HS2.out], hB⟩
    · obtain rfl : k = l.length := by omega
      rw [List.take_length]
      generalize P.ftot P.isPP l = S
      by_cases hs : pen + S < 0
      · have hm : max 0 (pen + S) = 0 := by omega
        go_wp2
        go_ret
        exact ⟨ret_bool (by simp [hm]), hB⟩
      · have hm : max 0 (pen + S) = pen + S := by omega
        go_wp2
        go_ret
        exact ⟨ret_bool (by simp [hm]), hB⟩

end Go.Proofs.Ytagjlckmemmflac
