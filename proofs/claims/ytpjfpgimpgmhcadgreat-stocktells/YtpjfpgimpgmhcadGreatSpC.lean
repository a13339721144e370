import Derived.Test.YtpjfpgimpgmhcadGreatSpB
import Derived.Deep.AppendLies
set_option maxRecDepth 10000
/- The walk of the reference's FreeOf. -/
namespace Go.Proofs.YtpjfpgimpgmhcadGreat.Sp
open Go.RowKit
set_option linter.unusedSimpArgs false
set_option linter.unusedVariables false

theorem betweenQ_any (n a b : Int) (w : World) :
    Calls Tryz.prog 54 #[.int .i64 n, .int .i64 a, .int .i64 b] w fun e w' => e = .returned (.bool (P.btw n a b)) ∧ w' = w :=
  (between_any n a b w).mono fun e w' ⟨h1, h2⟩ => ⟨h1, h2.symm⟩

theorem any_take {i : Int} {l : List (Int × Int)} {k : Nat} {a c : Int} (hk : k < l.length) (hd : l.drop k = (a, c) :: l.drop (k + 1)) : P.anyHas i (l.take (k + 1)) = (P.anyHas i (l.take k) || P.btw i a (c - 1)) := by
  have e : l.take (k + 1) = l.take k ++ [(a, c)] := by
    have h1 := List.drop_eq_getElem_cons hk
    rw [hd] at h1
    simp only [List.cons.injEq] at h1
    rw [h1.1, List.take_succ_eq_append_getElem hk]
  have e2 : decide (i < c) = decide (i ≤ c - 1) := by rw [decide_eq_decide]; omega
  unfold P.anyHas
  rw [e, List.any_append]
  simp [P.has, P.btw, e2]

set_option maxHeartbeats 4000000 in
theorem freeOf_any (ao : Option Addr) (cap : Nat) (l : List (Int × Int)) (n : Int) (w : World) (hl : SpAt w ao cap l) (hcal : P.calendar l n = 0) :
    Calls Tryz.prog 17 #[.slice ao l.length cap, .int .i64 n] w fun e w' => ∃ v', e = .returned v' ∧ Own w' w.heap.size v' (P.free l n) ∧ Below w.heap.size w w' := by
  obtain ⟨h7, hcl, hsl⟩ := calendar_len hcal
  have hn : 1 ≤ n ∧ n ≤ 7 := by simpa [P.sails] using hsl
  obtain ⟨N, rfl⟩ : ∃ N : Nat, n = N := ⟨n.toNat, by omega⟩
  obtain ⟨hn1, hn7⟩ := hn
  have hle := hl.le
  have HC : Aside (P.calendar l N = 0) := hcal
  have HCL : Aside (P.cal N 0 l = 0) := hcl
  clear hcal hcl
  go_enter Tryz.func17, Tryz.ntmps17
  go_wp2
  go_loopg [5, 6, 7] N (fun g v op i wr => ∃ (k : Nat) (out : List (Int × Int)) (opn : Bool), k ≤ N ∧ g = N - k ∧ i = .int .i64 k ∧ op = .bool opn ∧ Own wr w.heap.size v out ∧ P.Built l k out opn ∧ Below w.heap.size w wr)
  case atStart => exact ⟨0, [], false, Nat.zero_le _, rfl, rfl, rfl, World.ownsRow_nil _ _ _ _, Built.start l, Below.refl _ _⟩
  case round =>
    obtain ⟨k, out, opn, hk, rfl, rfl, rfl, hown, hbt, hB⟩ := hrel
    have hBs := hB.size
    have hlen := hbt.len
    by_cases hlt : k < N
    · go_wp2
      go_loopg [8, 9] l.length (fun g tk j wx => ∃ (i : Nat) (tkn : Bool), i ≤ l.length ∧ g = l.length - i ∧ j = .int .i64 i ∧ tk = .bool tkn ∧ tkn = P.anyHas k (l.take i) ∧ Own wx w.heap.size _ out ∧ Below w.heap.size w wx)
      case atStart => exact ⟨0, false, Nat.zero_le _, rfl, rfl, rfl, rfl, hown, hB⟩
      case round =>
        clear hown hB hBs
        obtain ⟨i, tkn, hi, rfl, rfl, rfl, htk, hown, hB⟩ := hrel
        have hBs := hB.size
        have HT : Aside (tkn = P.anyHas k (l.take i)) := htk
        clear htk
        by_cases hil : i < l.length
        · obtain ⟨b, off, a, c, rfl, hbw, hd, hc0, hc1⟩ := hl.get hB i hil
          have hm := cal_mem HCL.out (getSpan hil hd)
          simp only at hm
          obtain ⟨hm1, hm2, hm3⟩ := hm
          have HD : Aside (P.anyHas k (l.take (i + 1)) = (P.anyHas k (l.take i) || P.btw k a (c - 1))) := any_take hil hd
          clear hd
          have hi1' : (i : Int) < (l.length : Int) := by omega
          have hi2' : (0 : Int) ≤ (i : Int) := by omega
          cases tkn
          · go_wp2
            go_quiet ((go_at_call 54; exact Calls.quiet_of_same (betweenQ_any _ _ _ _)))
            go_wp2
            go_roundg (l.length - (i + 1))
            case measure => omega
            case rel => exact ⟨i + 1, P.btw k a (c - 1), by omega, rfl, by go_num, rfl, by rw [HD.out, ← HT.out]; rfl, hown.below (below_drewN (Below.refl _ _) _), below_drewN hB _⟩
          · go_wp2
            go_quiet (fail)
            go_wp2
            go_roundg (l.length - (i + 1))
            case measure => omega
            case rel => exact ⟨i + 1, true, by omega, rfl, by go_num, rfl, by rw [HD.out, ← HT.out]; rfl, hown.below (below_drewN (Below.refl _ _) _), below_drewN hB _⟩
        · obtain rfl : i = l.length := by omega
          rw [List.take_of_length_le (Nat.le_refl _)] at HT
          cases tkn
          · have ht : P.anyHas k l = false := HT.out.symm
            have HB : Aside (P.Built l k out opn) := hbt
            clear hbt HT
            cases opn
            · have HN := Built.begin HB.out ht
              go_wp2_with (at_builtin; refine wpList_append_span rfl (.tmp 37) (.tmp 42) rfl w.heap.size _ out _ _ rfl hown rfl hBs (by omega) ?_; intro v5 w5 hown5 hgrow5; have hB5 := grown_below hB hown (Nat.le_refl _) hgrow5)
              go_roundg (N - (k + 1))
              case measure => omega
              case rel => exact ⟨k + 1, _, true, by omega, rfl, by go_num, rfl, hown5, HN, hB5⟩
            · obtain ⟨o, x, ho⟩ := HB.out.opened rfl
              subst ho
              have HN := Built.extend HB.out ht
              obtain ⟨g, cap1, hv, hbg, hgl⟩ := World.ownsRow.form hown (by simp)
              subst hv
              have hol : o.length < 8 := by simp at hlen; omega
              have hcl : wr.cell? ⟨g, o.length * 2 + 1, Option.none⟩ = some (.int .i64 k) := by
                have h1 := World.ownsRow.cellAt hown (o.length * 2 + 1) (by simp; omega)
                have h2 := (cellsOf_get (o ++ [(x, (k : Int))]) o.length (by simp)).2
                rw [h2] at h1
                simpa using h1
              have hfr : wr.frozen? ⟨g, o.length * 2 + 1, Option.none⟩ = false := World.ownsRow.frozenAt hown _
              have HO : Aside (Own (wr.setCell ⟨g, o.length * 2 + 1, Option.none⟩ (.int .i64 ((k : Int) + 1))) w.heap.size (.slice (some ⟨g, 0, Option.none⟩) (o ++ [(x, (k : Int))]).length cap1) (o ++ [(x, (k : Int) + 1)])) := by
                have h1 := (World.ownsRow.stored hown (o.length * 2 + 1) (.int .i64 ((k : Int) + 1))).1
                have e : (cellsOf (o ++ [(x, (k : Int))])).set (o.length * 2 + 1) (.int .i64 ((k : Int) + 1)) = cellsOf (o ++ [(x, (k : Int) + 1)]) := by
                  have e1 := cellsOf_length o
                  rw [cellsOf_append, cellsOf_append, List.set_append_right _ _ (by omega), e1]
                  simp [cellsOf]
                rw [e] at h1
                show World.ownsRow _ _ _ _ _ _ _
                simpa using h1
              clear hown HB
              go_wp2
              go_roundg (N - (k + 1))
              case measure => omega
              case rel => exact ⟨k + 1, _, true, by omega, rfl, by go_num, rfl, HO.out, HN, hB.setCell hbg _⟩
          · have ht : P.anyHas k l = true := HT.out.symm
            have HN := Built.taken hbt ht
            clear hbt HT
            go_wp2
            go_roundg (N - (k + 1))
            case measure => omega
            case rel => exact ⟨k + 1, out, false, by omega, rfl, by go_num, rfl, hown, HN, hB⟩
    · obtain rfl : k = N := by omega
      have HN : Aside (out = P.free l k) := built_free HC.out hbt
      clear hbt
      go_wp2
      go_ret
      exact ⟨_, rfl, by rw [← HN.out]; exact hown, hB⟩

end Go.Proofs.YtpjfpgimpgmhcadGreat.Sp