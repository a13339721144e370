/- Lists of edges that a call makes; walks of edges and its function literal. -/
import Derived.Test.YtcifdkggigfnlabMatH
namespace Go.Proofs.Ytcifdkggigfnlab
open Go.RowKit Go.Maps Go.WideMaps
set_option linter.unusedSimpArgs false
set_option linter.unusedVariables false

def cellsE (l : List Edge) : List Value := l.flatMap fun s => [.int .i64 s.1, .int .i64 s.2]
theorem cellsE_length (l : List Edge) : (cellsE l).length = l.length * 2 := by
  induction l with
  | nil => rfl
  | cons s l ih => simp [cellsE] at ih ⊢; omega
theorem cellsE_append (a b : List Edge) : cellsE (a ++ b) = cellsE a ++ cellsE b := by simp [cellsE]
theorem cellsE_get (l : List Edge) (i : Nat) (h : i < l.length) : (cellsE l)[i * 2]? = some (.int .i64 l[i].1) ∧ (cellsE l)[i * 2 + 1]? = some (.int .i64 l[i].2) := by
  induction l generalizing i with
  | nil => simp at h
  | cons s l ih =>
    cases i with
    | zero => simp [cellsE]
    | succ i =>
      have := ih i (by simpa using h)
      simp only [cellsE, List.flatMap_cons] at this ⊢
      rw [show (i + 1) * 2 = i * 2 + 1 + 1 by omega]
      simpa using this
/-- The value v is a slice of the call's own (blocks from base on) that holds the edges l. -/
abbrev OwnE (w : World) (base : Nat) (v : Value) (l : List Edge) : Prop := w.ownsRow base 52 2 v l.length (cellsE l)
theorem Try.infoEdge : (Try.prog.info? 52).map (fun i => (i.zero, i.size, i.bytes)) = some (some (.agg #[.int .i64 0, .int .i64 0]), 2, 16) := by kernel_rfl

theorem OwnE.at {w : World} {base : Nat} {v : Value} {l : List Edge} (h : OwnE w base v l) : ∃ ao cap, v = .slice ao l.length cap ∧ EdgesAt w ao cap l := by
  rcases h.2 with ⟨rfl, h0⟩ | ⟨g, cap, cur, rfl, hb, hg, hn, hm, hs, ht⟩
  · refine ⟨none, 0, by rw [h0], by omega, by simp [maxLen], fun _ => rfl, by omega⟩
  · refine ⟨some ⟨g, 0, none⟩, cap, rfl, hn, hm, (fun h => by cases h), fun h0 => ⟨g, 0, rfl, ?_, fun i hi => ?_⟩⟩
    · rcases Nat.lt_or_ge g w.heap.size with hlt | hge
      · exact hlt
      · rw [Array.getElem?_eq_none hge] at hg; cases hg
    · obtain ⟨c0, c1⟩ := cellsE_get l i hi
      have k0 := World.ownsRow.cellAt h (i * 2) (by omega)
      have k1 := World.ownsRow.cellAt h (i * 2 + 1) (by omega)
      rw [c0] at k0
      rw [c1] at k1
      refine ⟨[.int .i64 l[i].1, .int .i64 l[i].2], rfl, rfl, fun j u hj => ?_⟩
      match j, hj with
      | 0, hj => simp at hj; subst hj; simpa using k0
      | 1, hj => simp at hj; subst hj; simpa using k1
theorem OwnE.below {w w' : World} {base : Nat} {v : Value} {l : List Edge} (h : OwnE w base v l) (hb : Below w.heap.size w w') : OwnE w' base v l := by
  refine ⟨h.1, ?_⟩
  rcases h.2 with h2 | ⟨g, cap, cur, hv, hg, hh, r⟩
  · exact Or.inl h2
  · refine Or.inr ⟨g, cap, cur, hv, hg, ?_, r⟩
    rw [hb.block g (Array.getElem?_eq_some_iff.1 hh).1]
    exact hh
theorem grownE_below {w W0 w' : World} {base : Nat} {v : Value} {l : List Edge} (hB : Below w.heap.size w W0) (hown : OwnE W0 base v l) (hb : w.heap.size ≤ base) (hg : W0.grownBy w' v.ownBlock) : Below w.heap.size w w' :=
  hB.grown hg hB.size (fun j hj => Nat.le_trans hb (hown.lt j hj).1)
theorem ownE_far {w : World} {base b : Nat} {v : Value} {l : List Edge} (h : OwnE w base v l) (hb : b < base) : some b ≠ v.ownBlock := fun e => by
  have := (h.lt b e.symm).1
  omega

theorem news_two {w : World} (a b : Int) : ∀ j u, ([.int .i64 a, .int .i64 b] : List Value)[j]? = some u → (w.alloc (.cells #[.int .i64 a, .int .i64 b] 52)).cell? ((⟨w.heap.size, 0, none⟩ : Addr).add j) = some u := by
  intro j u hu
  match j, hu with
  | 0, hu => simp at hu; subst hu; simp [Addr.add]
  | 1, hu => simp at hu; subst hu; simp [Addr.add]

/-- 'append(v, x)', x laid into a block of its own just ahead. -/
theorem wpList_append_edge {ops : Array Oper} {rest : List Oper} {o : Oper} {a : Act} {Q : Exit → Act → World → Prop} {W0 : World} (hgd : o.guard = none) (s x : Operand)
    (ho : o.op = .call { callee := .builtin .append, args := #[s, x], argTypes := #[42, 42] }) (base : Nat) (v : Value) (l : List Edge) (p q : Int) (hs : a.eval s = v) (hown : OwnE W0 base v l)
    (H : Nat) (hH : W0.heap.size = H) (hx : a.eval x = .slice (some ⟨H, 0, none⟩) 1 1) (hb : base ≤ W0.heap.size) (hn : l.length ≤ 1000000)
    (h : ∀ v' w', OwnE w' base v' (l ++ [(p, q)]) → W0.grownBy w' v.ownBlock → wpList Try.prog ops Q rest (a.put o.dst v') w') : wpList Try.prog ops Q (o :: rest) a (W0.alloc (.cells #[.int .i64 p, .int .i64 q] 52)) := by
  subst hH
  obtain ⟨i0, hi, hi0, hi1, hi2⟩ := info_parts Try.infoEdge
  refine wpList_append_own _ hgd s x 42 ho base 52 i0 _ 2 16 Try.underlying42 hi hi0 hi1 hi2 rfl (by decide) v l.length (cellsE l) hs (World.ownsRow.alloc hown _) ⟨W0.heap.size, 0, none⟩ 1 1 [.int .i64 p, .int .i64 q] hx rfl (news_two p q) (by simp; exact ⟨rfl, rfl⟩) (by simp only [maxLen]; omega) (by omega) (by simp; omega) ?_
  intro v' w' h1 h2 _
  refine h v' w' ?_ (grownA h2)
  simpa [OwnE, cellsE_append, cellsE] using h1

/-- The first right one that a left one has; R, if it has none. -/
def P.rightOf (R : Nat) (s : Nat → Int) (i : Int) : Nat := (List.range R).findIdx (fun r => decide (s r = i))
theorem rightOf_hit {R : Nat} {s : Nat → Int} {i : Int} {k : Nat} (hk : k < R) (h : s k = i) (hP : ∀ j, j < k → s j ≠ i) : P.rightOf R s i = k := by
  unfold P.rightOf
  rw [List.findIdx_eq (by simpa using hk)]
  refine ⟨by simpa using h, fun j hj => ?_⟩
  simpa using hP j hj
theorem rightOf_none {R : Nat} {s : Nat → Int} {i : Int} (hP : ∀ j, j < R → s j ≠ i) : P.rightOf R s i = R := by
  have : (List.range R).findIdx (fun r => decide (s r = i)) = (List.range R).length := by
    rw [List.findIdx_eq_length]
    intro x hx
    simpa using hP x (by simpa using hx)
  simpa [P.rightOf] using this
theorem rightOf_is {R : Nat} {s : Nat → Int} {i : Int} (h : P.rightOf R s i < R) : s (P.rightOf R s i) = i := by
  unfold P.rightOf at *
  have h2 : (List.range R).findIdx (fun r => decide (s r = i)) < (List.range R).length := by simpa using h
  have := List.findIdx_getElem (w := h2)
  simpa using this
theorem rightOf_lt {R : Nat} {s : Nat → Int} {i : Int} {r : Nat} (hr : r < R) (h : s r = i) : P.rightOf R s i < R := by
  unfold P.rightOf
  have := List.findIdx_lt_length_of_exists (p := fun r => decide (s r = i)) (xs := List.range R) ⟨r, by simpa using hr, by simpa using h⟩
  simpa using this

def P.edgeAt (R : Nat) (s : Nat → Int) (i : Nat) : List Edge := if P.rightOf R s i < R then [((i : Int), (P.rightOf R s i : Int))] else []
def P.edgesTo (R : Nat) (s : Nat → Int) (k : Nat) : List Edge := (List.range k).flatMap (P.edgeAt R s)
theorem edgesTo_succ (R : Nat) (s : Nat → Int) (k : Nat) : P.edgesTo R s (k + 1) = P.edgesTo R s k ++ P.edgeAt R s k := by simp [P.edgesTo, List.range_succ]
theorem edgesTo_len (R : Nat) (s : Nat → Int) (k : Nat) : (P.edgesTo R s k).length ≤ k := by
  induction k with
  | zero => simp [P.edgesTo]
  | succ k ih =>
    rw [edgesTo_succ, List.length_append]
    have : (P.edgeAt R s k).length ≤ 1 := by unfold P.edgeAt; split <;> simp
    omega

set_option maxHeartbeats 1000000 in
theorem edges1_any (G R gp gi k : Nat) (s : Nat → Int) (i : Int) (w : World) (hk : k < R) (hR : R ≤ 16) (h3 : w.cell? ⟨gp, 3, none⟩ = some (.slice (some ⟨G, 0, none⟩) R R)) (hi : w.cell? ⟨gi, 0, none⟩ = some (.int .i64 i)) (hG : w.rowIs G 3 R (fun r => .int .i64 (s r))) :
    Calls Try.prog 57 #[.int .i64 k, .pointer (some ⟨gp, 0, none⟩), .pointer (some ⟨gi, 0, none⟩)] w fun e w' => e = .returned (.bool (s k == i)) ∧ Below w.heap.size w w' := by
  have hc := hG.cell hk
  generalize s k = y at hc
  have i1 : (k : Int) < (R : Int) := by omega
  have i2 : (0 : Int) ≤ (k : Int) := by omega
  go_enter Try.func57, Try.ntmps57
  go_wp2
  go_quiet (fail)
  go_wp2
  go_ret
  exact ⟨rfl, below_drewN (Below.refl _ _) _⟩

theorem firstRight_any (G R gp gi : Nat) (s : Nat → Int) (i : Int) (w : World) (hR : R ≤ 16) (h3 : w.cell? ⟨gp, 3, none⟩ = some (.slice (some ⟨G, 0, none⟩) R R)) (hi : w.cell? ⟨gi, 0, none⟩ = some (.int .i64 i)) (hG : w.rowIs G 3 R (fun r => .int .i64 (s r))) :
    Calls Try.prog 56 #[.int .i64 R, .func (.func 57) #[] #[.pointer (some ⟨gp, 0, none⟩), .pointer (some ⟨gi, 0, none⟩)]] w fun e w' => e = .returned (.int .i64 (P.rightOf R s i)) ∧ Below w.heap.size w w' := by
  refine (first_inv R 57 #[.pointer (some ⟨gp, 0, none⟩), .pointer (some ⟨gi, 0, none⟩)] (fun k wx => Below w.heap.size w wx ∧ ∀ j, j < k → s j ≠ i) (fun k wx => Below w.heap.size w wx ∧ s k = i ∧ ∀ j, j < k → s j ≠ i) w (by omega) ⟨Below.refl _ _, fun j h => by omega⟩ (fun args wx => by go_simp) ?_).mono ?_
  · intro k wx hk ⟨hb, hP⟩
    rw [arr3]
    refine (edges1_any G R gp gi k s i wx hk hR (cellIn hb h3) (cellIn hb hi) (hG.of_block (hb.block G hG.lt))).mono ?_
    rintro e w1 ⟨rfl, hb1⟩
    by_cases h : s k = i
    · exact .inr ⟨by simp [h], bvia hb hb1, h, hP⟩
    · refine .inl ⟨by simp [h], bvia hb hb1, fun j hj => ?_⟩
      rcases Nat.lt_or_ge j k with h2 | h2
      · exact hP j h2
      · obtain rfl : j = k := by omega
        exact h
  · rintro e w1 (⟨rfl, hb, hP⟩ | ⟨k, hk, rfl, hb, h, hP⟩)
    · exact ⟨by rw [rightOf_none hP], hb⟩
    · exact ⟨by rw [rightOf_hit hk h hP], hb⟩

set_option maxHeartbeats 2000000 in
theorem edges_any (n R B G : Nat) (s : Nat → Int) (w : World) (hn : n ≤ 16) (hR : R ≤ 16) (hG : w.rowIs G 3 R (fun r => .int .i64 (s r))) :
    Calls Try.prog 47 #[.agg #[.int .i64 n, .int .i64 R, .map (some B), .slice (some ⟨G, 0, none⟩) R R]] w fun e w' => ∃ v, e = .returned v ∧ OwnE w' w.heap.size v (P.edgesTo R s n) ∧ Below w.heap.size w w' := by
  have hGl := hG.lt
  go_enter Try.func47, Try.ntmps47
  go_wp2
  go_loopg [3, 9] n (fun g v i wr => ∃ (k : Nat), k ≤ n ∧ g = n - k ∧ i = .int .i64 k ∧ OwnE wr (w.heap.size + 1) v (P.edgesTo R s k) ∧ wr.cell? ⟨w.heap.size, 0, none⟩ = some (.int .i64 n) ∧ wr.cell? ⟨w.heap.size, 1, none⟩ = some (.int .i64 R) ∧ wr.cell? ⟨w.heap.size, 3, none⟩ = some (.slice (some ⟨G, 0, none⟩) R R) ∧ w.heap.size + 1 ≤ wr.heap.size ∧ Below w.heap.size w wr)
  case atStart => exact ⟨0, Nat.zero_le _, rfl, rfl, World.ownsRow_nil _ _ _ _, by simp, by simp, by simp, by simp, by go_grown⟩
  case round =>
    obtain ⟨k, hk, rfl, rfl, hown, c0, c1, c3, hsz, hB⟩ := hrel
    have hG2 := hG.of_block (hB.block G hGl)
    by_cases hlt : k < n
    · have hes := edgesTo_succ R s k
      have hel := edgesTo_len R s k
      have HS : Aside (P.edgesTo R s (k + 1) = P.edgesTo R s k ++ P.edgeAt R s k) := hes
      clear hes
      have hlt0 : w.heap.size < wr.heap.size := by omega
      go_wp2_with fail
      have hba : Below wr.heap.size wr (wr.alloc (.cells #[.int .i64 k] 3)) := by go_grown
      refine (firstRight_any G R w.heap.size wr.heap.size s k _ hR (cellIn hba c3) (by simp) (hG2.of_block (hba.block G hG2.lt))).mono ?_
      rintro e w1 ⟨rfl, hb1⟩
      have hb01 := bvia hba hb1
      have hown1 := hown.below hb01
      have d0 := cellIn hb01 c0
      have d1 := cellIn hb01 c1
      have d3 := cellIn hb01 c3
      have dk : w1.cell? ⟨wr.heap.size, 0, none⟩ = some (.int .i64 k) := cellIn hb1 (by simp)
      have hB1 := bvia hB hb01
      have hsz1 : w.heap.size + 1 ≤ w1.heap.size := Nat.le_trans hsz hb01.size
      clear hba hb1 hown c0 c1 c3
      by_cases hr : P.rightOf R s k < R
      · have HE : Aside (P.edgeAt R s k = [((k : Int), (P.rightOf R s k : Int))]) := by show _ = _; rw [P.edgeAt, if_pos hr]
        generalize P.edgesTo R s k = acc at HS hown1 hel
        generalize P.rightOf R s k = q at HE hr
        go_wp2_with (at_builtin; refine wpList_append_edge rfl (.tmp 22) (.tmp 26) rfl (w.heap.size + 1) _ acc k q rfl hown1 _ rfl rfl hsz1 (by omega) ?_; intro v2 w2 hown2 hgr2)
        go_roundg (n - (k + 1))
        case measure => omega
        case rel => exact ⟨k + 1, by omega, rfl, by go_num, by rw [HS.out, HE.out]; exact hown2, hgr2.cell d0 (ownE_far hown1 (Nat.lt_succ_self _)), hgr2.cell d1 (ownE_far hown1 (Nat.lt_succ_self _)), hgr2.cell d3 (ownE_far hown1 (Nat.lt_succ_self _)), by have := hgr2.size; omega, grownE_below hB1 hown1 (by omega) hgr2⟩
      · have HE : Aside (P.edgeAt R s k = []) := by show _ = _; rw [P.edgeAt, if_neg hr]
        go_wp2
        go_roundg (n - (k + 1))
        case measure => omega
        case rel => exact ⟨k + 1, by omega, rfl, by go_num, by rw [HS.out, HE.out, List.append_nil]; exact hown1, d0, d1, d3, hsz1, hB1⟩
    · obtain rfl : k = n := by omega
      go_wp2
      go_ret
      exact ⟨_, rfl, World.ownsRow.mono hown (by omega), hB⟩

end Go.Proofs.Ytcifdkggigfnlab
