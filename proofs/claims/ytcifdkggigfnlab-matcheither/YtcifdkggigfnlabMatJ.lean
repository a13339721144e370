/- The walk of crowd. -/
import Derived.Test.YtcifdkggigfnlabMatI
namespace Go.Proofs.Ytcifdkggigfnlab
open Go.RowKit Go.Maps Go.WideMaps
set_option linter.unusedSimpArgs false
set_option linter.unusedVariables false

theorem iset_snoc {w : World} {M : Nat} {l : List Int} {k : Int} (h : w.ownsMap Try.prog 3 (unitElem (H := Unit)) M (l.length + 1) ((setOf (.agg []) (l.map P.litI)).put (P.litI k) (.agg []))) : ISet w M (l ++ [k]) := by
  show World.ownsMap _ _ _ _ _ _ _
  rw [List.map_append, List.map_cons, List.map_nil, setOf_snoc, List.length_append]
  exact h

/-- 'marks{n: {}}': an entry of a set of numbers that is written out: what Go does there is what it does at 'm[n] = ..'. -/
theorem wpList_insert_int {ops : Array Oper} {rest : List Oper} {o : Oper} {a : Act} {Q : Exit → Act → World → Prop} {W : World} (B : Nat) (l : List Int) (n : Int) (hset : ISet W B l) (hl : l.length ≤ 1000) (hn : (Lit.int .i64 n).wf = true) (mo xo vo : Operand)
    (hop : o.op = Op.insert 74 mo xo vo) (hgd : o.guard = none) (em : a.eval mo = .map (some B)) (ex : a.eval xo = .int .i64 n) (ev : a.eval vo = .agg #[])
    (next : ∀ W', ISet W' B (l ++ [n]) → W.grownBy W' (some B) → wpList Try.prog ops Q rest (a.put o.dst undef) W') : wpList Try.prog ops Q (o :: rest) a W := by
  obtain ⟨W', run, set', grown⟩ := hset.update Try.lawI Try.underlying74 (by simp only [maxLen]; omega) (keyOf_int_mk Try.underlying3 hn) unitElem_mk
  refine wpList_plain hgd fun C hC => ?_
  unfold Oper.wp
  simp [execOp, hop, em, ex, ev, run, Result.andThen]
  exact hC _ _ (next W' (iset_snoc set') grown)

/-- Those who are in the crowd, of the right ones ahead of k. -/
def P.inAt (s : Nat → Int) (A : List Int) (r : Nat) : List Int := if P.hasInt A r = true then [s r] else []
def P.inTo (s : Nat → Int) (A : List Int) (x : Int) (k : Nat) : List Int := x :: (List.range k).flatMap (P.inAt s A)
theorem inTo_succ (s : Nat → Int) (A : List Int) (x : Int) (k : Nat) : P.inTo s A x (k + 1) = P.inTo s A x k ++ P.inAt s A k := by simp [P.inTo, List.range_succ]
theorem inTo_len (s : Nat → Int) (A : List Int) (x : Int) (k : Nat) : (P.inTo s A x k).length ≤ k + 1 := by
  induction k with
  | zero => simp [P.inTo]
  | succ k ih =>
    rw [inTo_succ, List.length_append]
    have : (P.inAt s A k).length ≤ 1 := by unfold P.inAt; split <;> simp
    omega
def P.crAt (L : List Int) (i : Nat) : List Int := if P.hasInt L i = true then [(i : Int)] else []
def P.crowd (L : List Int) (k : Nat) : List Int := (List.range k).flatMap (P.crAt L)
theorem crowd_succ (L : List Int) (k : Nat) : P.crowd L (k + 1) = P.crowd L k ++ P.crAt L k := by simp [P.crowd, List.range_succ]
theorem crowd_len (L : List Int) (k : Nat) : (P.crowd L k).length ≤ k := by
  induction k with
  | zero => simp [P.crowd]
  | succ k ih =>
    rw [crowd_succ, List.length_append]
    have : (P.crAt L k).length ≤ 1 := by unfold P.crAt; split <;> simp
    omega

set_option maxHeartbeats 4000000 in
theorem crowd_any (n R B G M : Nat) (s : Nat → Int) (A : List Int) (x : Int) (w : World) (hn : n ≤ 16) (hR : R ≤ 16) (hG : w.rowIs G 3 R (fun r => .int .i64 (s r))) (hM : ISet w M A) (hx : 0 ≤ x ∧ x < (n : Int)) (hs : ∀ r, r < R → (r : Int) ∈ A → 0 ≤ s r ∧ s r < (n : Int)) :
    Calls Try.prog 48 #[.agg #[.int .i64 n, .int .i64 R, .map (some B), .slice (some ⟨G, 0, none⟩) R R], .int .i64 x, .map (some M)] w fun e w' => ∃ v, e = .returned v ∧ OwnI w' w.heap.size v (P.crowd (P.inTo s A x R) n) ∧ Below w.heap.size w w' := by
  have hGl := hG.lt
  have hMl := hM.lt
  have hmm := @run_makeMap Try.prog
  have hwf := wf_small (n := x) (by omega)
  have HS : Aside (∀ r, r < R → (r : Int) ∈ A → 0 ≤ s r ∧ s r < (n : Int)) := hs
  clear hs
  go_enter Try.func48, Try.ntmps48
  have hs0 : ISet ((w.alloc (.cells #[.int .i64 n, .int .i64 R, .map (some B), .slice (some ⟨G, 0, none⟩) R R] 70)).alloc (.map #[] 0)) (w.heap.size + 1) [] := by
    have := ISet.made (w.alloc (.cells #[.int .i64 n, .int .i64 R, .map (some B), .slice (some ⟨G, 0, none⟩) R R] 70))
    simpa using this
  go_wp2_with (refine wpList_insert_int (w.heap.size + 1) [] x hs0 (by simp) hwf (.tmp 11) (.tmp 12) (.tmp 13) rfl rfl rfl rfl rfl ?_; intro w1 hown1 hgrow1; have c0 : w1.cell? ⟨w.heap.size, 0, none⟩ = some (.int .i64 n) := hgrow1.cell (by go_simp) (by simp); have c1 : w1.cell? ⟨w.heap.size, 1, none⟩ = some (.int .i64 R) := hgrow1.cell (by go_simp) (by simp); have c3 : w1.cell? ⟨w.heap.size, 3, none⟩ = some (.slice (some ⟨G, 0, none⟩) R R) := hgrow1.cell (by go_simp) (by simp))
  have hB1 : Below w.heap.size w w1 := grown_below_map (w := (w.alloc (.cells #[.int .i64 n, .int .i64 R, .map (some B), .slice (some ⟨G, 0, none⟩) R R] 70)).alloc (.map #[] 0)) (by go_grown) (by omega) hgrow1
  have hset1 : ISet w1 (w.heap.size + 1) (P.inTo s A x 0) := by
    simpa [P.inTo] using hown1
  clear hown1 hgrow1 hs0 hmm
  go_loopg [18] R (fun g i wr => ∃ (k : Nat), k ≤ R ∧ g = R - k ∧ i = .int .i64 k ∧ ISet wr (w.heap.size + 1) (P.inTo s A x k) ∧ wr.cell? ⟨w.heap.size, 0, none⟩ = some (.int .i64 n) ∧ wr.cell? ⟨w.heap.size, 1, none⟩ = some (.int .i64 R) ∧ wr.cell? ⟨w.heap.size, 3, none⟩ = some (.slice (some ⟨G, 0, none⟩) R R) ∧ Below w.heap.size w wr)
  case atStart => exact ⟨0, Nat.zero_le _, rfl, rfl, hset1, c0, c1, c3, hB1⟩
  case round =>
    clear hset1 c0 c1 c3 hB1
    obtain ⟨k, hk, rfl, rfl, hset, c0, c1, c3, hB⟩ := hrel
    by_cases hlt : k < R
    · have HI : Aside (P.inTo s A x (k + 1) = P.inTo s A x k ++ P.inAt s A k) := inTo_succ s A x k
      have hil := inTo_len s A x k
      generalize P.inTo s A x k = L at HI hil hset
      go_wp2_with fail
      refine (marksHas_any M A k _ (set_below hM hB) (by omega)).mono ?_
      rintro e w2 ⟨rfl, hb2⟩
      have hB2 := bvia hB hb2
      have d0 := cellIn hb2 c0
      have d1 := cellIn hb2 c1
      have d3 := cellIn hb2 c3
      have hset2 : ISet w2 (w.heap.size + 1) L := set_below hset hb2
      clear hset c0 c1 c3 hb2
      cases hm : P.hasInt A k
      · have HE : Aside (P.inAt s A k = []) := by show _ = _; rw [P.inAt, hm]; rfl
        go_wp2
        go_roundg (R - (k + 1))
        case measure => omega
        case rel => exact ⟨k + 1, by omega, rfl, by go_num, by rw [HI.out, HE.out, List.append_nil]; exact hset2, d0, d1, d3, hB2⟩
      · have HE : Aside (P.inAt s A k = [s k]) := by show _ = _; rw [P.inAt, hm]; rfl
        have hsk := HS.out k hlt ((hasInt_iff _ _).1 hm)
        have hce := (hG.of_block (hB2.block G hGl)).cell hlt
        generalize s k = y at hsk hce HE
        have hwy := wf_small (n := y) (by omega)
        have i1 : (k : Int) < (R : Int) := by omega
        have i2 : (0 : Int) ≤ (k : Int) := by omega
        go_wp2_with (at_mapUpdate; refine wpList_mapUpdate_own _ rfl _ _ _ 74 rfl 3 81 Try.lawI Try.underlying74 _ (w.heap.size + 1) L.length _ rfl hset2 (by simp only [maxLen]; omega) _ _ (P.litI y) rfl rfl (keyOf_int_mk Try.underlying3 hwy) _ [] unitElem_mk ?_; intro w3 hown3 hgrow3)
        go_roundg (R - (k + 1))
        case measure => omega
        case rel => exact ⟨k + 1, by omega, rfl, by go_num, by rw [HI.out, HE.out]; exact iset_snoc hown3, hgrow3.cell d0 (by simp), hgrow3.cell d1 (by simp), hgrow3.cell d3 (by simp), grown_below_map hB2 (by omega) hgrow3⟩
    · obtain rfl : k = R := by omega
      obtain ⟨L, hL⟩ : ∃ L, P.inTo s A x k = L := ⟨_, rfl⟩
      rw [hL] at hset
      have HL : Aside (P.inTo s A x k = L) := hL
      clear hL
      have hsl := hset.lt
      go_wp2
      go_loopg [9, 35] n (fun g v i wx => ∃ (j : Nat), j ≤ n ∧ g = n - j ∧ i = .int .i64 j ∧ OwnI wx (w.heap.size + 1 + 1) v (P.crowd L j) ∧ ISet wx (w.heap.size + 1) L ∧ Below w.heap.size w wx)
      case atStart => exact ⟨0, Nat.zero_le _, rfl, rfl, World.ownsRow_nil _ _ _ _, hset, hB⟩
      case round =>
        clear hset c0 c1 c3 hB hsl
        obtain ⟨j, hj, rfl, rfl, hown, hset, hB⟩ := hrel
        have hsl := hset.lt
        by_cases hjn : j < n
        · have HC : Aside (P.crowd L (j + 1) = P.crowd L j ++ P.crAt L j) := crowd_succ L j
          have hcl := crowd_len L j
          generalize P.crowd L j = acc at HC hcl hown
          go_wp2_with fail
          refine (marksHas_any (w.heap.size + 1) L j _ hset (by omega)).mono ?_
          rintro e w2 ⟨rfl, hb2⟩
          have hB2 := bvia hB hb2
          have hset2 : ISet w2 (w.heap.size + 1) L := set_below hset hb2
          have hown2 := hown.below hb2
          have hs2 := hset2.lt
          clear hset hown hb2
          cases hm : P.hasInt L j
          · have HE : Aside (P.crAt L j = []) := by show _ = _; rw [P.crAt, hm]; rfl
            go_wp2
            go_roundg (n - (j + 1))
            case measure => omega
            case rel => exact ⟨j + 1, by omega, rfl, by go_num, by rw [HC.out, HE.out, List.append_nil]; exact hown2, hset2, hB2⟩
          · have HE : Aside (P.crAt L j = [(j : Int)]) := by show _ = _; rw [P.crAt, hm]; rfl
            go_wp2_with (at_builtin; refine wpList_append_int rfl (.tmp 41) (.tmp 43) rfl (w.heap.size + 1 + 1) _ acc j rfl hown2 _ rfl rfl (by omega) (by omega) ?_; intro v3 w3 hown3 hgr3)
            go_roundg (n - (j + 1))
            case measure => omega
            case rel => exact ⟨j + 1, by omega, rfl, by go_num, by rw [HC.out, HE.out]; exact hown3, hset2.kept hgr3 (fun e => by have := (hown2.lt _ e.symm).1; omega), grownI_below hB2 hown2 (by omega) hgr3⟩
        · obtain rfl : j = n := by omega
          go_wp2
          go_ret
          exact ⟨_, rfl, by rw [HL.out]; exact World.ownsRow.mono hown (show w.heap.size ≤ w.heap.size + 1 + 1 by omega), hB⟩

end Go.Proofs.Ytcifdkggigfnlab
