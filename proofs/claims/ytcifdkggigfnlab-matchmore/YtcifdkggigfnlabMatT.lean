/- The walk of the law MatchMore. -/
import Derived.Test.YtcifdkggigfnlabMatS
namespace Go.Proofs.Ytcifdkggigfnlab
open Go.RowKit Go.Maps Go.WideMaps
set_option linter.unusedSimpArgs false
set_option linter.unusedVariables false
set_option linter.unnecessarySimpa false

theorem heap_new2 (w : World) (a b : Obj) : ((w.alloc a).alloc b).heap[w.heap.size + 1]? = some b := by
  have := heap_alloc_new (w.alloc a) b
  simpa using this
theorem heap_old2 (w : World) (a b : Obj) : ((w.alloc a).alloc b).heap[w.heap.size]? = some a := (Below.heap_alloc _ _ _ (by simp)).trans (heap_alloc_new w a)
theorem OwnE.at' {w : World} {base n cap : Nat} {ao : Option Addr} {l : List Edge} (h : OwnE w base (.slice ao n cap) l) : EdgesAt w ao cap l := by
  obtain ⟨ao', cap', e, h1⟩ := OwnE.at h
  simp only [Value.slice.injEq] at e
  obtain ⟨rfl, _, rfl⟩ := e
  exact h1
theorem turn_take {l : List Edge} {k : Nat} {x y : Int} (hk : k < l.length) (hg : l[k] = (x, y)) : P.turn (l.take (k + 1)) = P.turn (l.take k) ++ [(y, x)] := by
  rw [List.take_succ_eq_append_getElem hk, hg]
  simp [P.turn]

theorem wpE_app3 {o : Oper} {a : Act} {K : Act → World → Prop} {Q : Exit → Act → World → Prop} {u : World} {base : Nat} (s x : Operand) (ho : o.op = .call { callee := .builtin .append, args := #[s, x], argTypes := #[42, 42] }) (v : Value) (B : Nat) (l l2 : List Edge) (p q : Int) (hl2 : l ++ [(p, q)] = l2)
    (hv : a.eval s = v) (hown : OwnE u base v l) (hx : a.eval x = .slice (some ⟨B, 0, none⟩) 1 1) (hB : u.cell? ⟨B, 0, none⟩ = some (.int .i64 p)) (hB1 : u.cell? ⟨B, 1, none⟩ = some (.int .i64 q)) (hl : l.length ≤ 1000) (hbase : base ≤ u.heap.size)
    (h : ∀ g cap u', OwnE u' base (.slice (some ⟨g, 0, none⟩) l2.length cap) l2 → u.grownBy u' v.ownBlock → K (a.put o.dst (.slice (some ⟨g, 0, none⟩) l2.length cap)) u') : o.wp Try.prog a u K Q := by
  subst hl2
  exact wpE_app2 s x ho v B l p q hv hown hx hB hB1 hl hbase h

set_option maxRecDepth 10000 in
set_option maxHeartbeats 1500000 in
theorem matchMore_walk (n m : Int) (ao : Option Addr) (cap : Nat) (l : List Edge) (p q : Int) (W : World) (hl : EdgesAt W ao cap l) :
    Calls Try.prog 8 #[.int .i64 n, .int .i64 m, .slice ao l.length cap, .agg #[.int .i64 p, .int .i64 q]] W fun e w' => e = .returned (.bool true) ∧ Below W.heap.size W w' := by
  go_enter Try.func8, Try.ntmps8
  go_wp2_with fail
  refine (matchBegun_any _).mono ?_
  rintro e w0 ⟨rfl, hb0⟩
  have hB0 : Below W.heap.size W w0 := bvia (by go_grown) hb0
  have c0 : w0.cell? ⟨W.heap.size, 0, none⟩ = some (.int .i64 p) := cellIn hb0 (by simp)
  have c1 : w0.cell? ⟨W.heap.size, 1, none⟩ = some (.int .i64 q) := cellIn hb0 (by simp)
  go_wp2_with fail
  refine (most_any ao cap l n m _ (SlAt.below REdge.mono hl hB0)).mono ?_
  rintro e w1 ⟨v1, k1, rfl, own1, hb1, hbad1, hok1⟩
  obtain ⟨ao1, cap1, rfl, a1⟩ := OwnE.at own1
  have hB1 := bvia hB0 hb1
  have d0 := cellIn hb1 c0
  have d1 := cellIn hb1 c1
  clear own1 a1 c0 c1 hb0 hb1 hB0
  by_cases hz : P.graphE n m l = 0
  · obtain ⟨n0, n16, m0, m16, hE, hnd⟩ := graphE_zero hz
    have hl256 : l.length ≤ 256 := few_edges (fun x hx => by have := hE x hx; omega) hnd
    have hle := hl.le
    have hmx := hl.max
    unfold maxLen at hmx
    have HM : Aside (MaxM l k1.length) := (hok1 hz).2.2
    have HT : Aside (P.graphE m n (P.turn l) = 0) := graphE_mk (by omega) (by omega) (fun x hx => by
      obtain ⟨z, hz, rfl⟩ := List.mem_map.1 hx
      have := hE z hz
      exact ⟨this.2.2.1, this.2.2.2, this.1, this.2.1⟩) (turn_nodup hnd)
    have hk16 : k1.length ≤ 16 := by
      have := isM_right (R := 16) (fun x hx => by have := hE x hx; omega) (hok1 hz).1
      exact this
    have hlt0 : W.heap.size < w1.heap.size := World.block_lt_of_cell? w1 _ d0
    rw [hz]
    clear hbad1 hok1 hz hE hnd
    go_wp2
    go_loopg [11, 12] l.length (fun g v iv wr => ∃ (i : Nat), i ≤ l.length ∧ g = l.length - i ∧ iv = .int .i64 i ∧ OwnE wr (W.heap.size + 1) v (P.turn (l.take i)) ∧ wr.cell? ⟨W.heap.size, 0, none⟩ = some (.int .i64 p) ∧ wr.cell? ⟨W.heap.size, 1, none⟩ = some (.int .i64 q) ∧ Below W.heap.size W wr)
    case atStart => exact ⟨0, Nat.zero_le _, rfl, rfl, World.ownsRow_nil _ _ _ _, d0, d1, hB1⟩
    case round =>
      clear d0 d1 hB1 hlt0
      obtain ⟨i, hi, rfl, rfl, hown, d0, d1, hB⟩ := hrel
      have hlt0 : W.heap.size < wr.heap.size := World.block_lt_of_cell? wr _ d0
      by_cases hlt : i < l.length
      · obtain ⟨b, off, x, y, rfl, hbw, hd, hc0, hc1⟩ := hl.get hB i hlt
        have HTT : Aside (P.turn (l.take (i + 1)) = P.turn (l.take i) ++ [(y, x)]) := turn_take hlt (getE hlt hd)
        have hal : (P.turn (l.take i)).length ≤ 256 := by simp [P.turn]; omega
        clear hd
        generalize P.turn (l.take i) = acc at HTT hal hown
        have i1 : (i : Int) < (l.length : Int) := by omega
        have i2 : (0 : Int) ≤ (i : Int) := by omega
        obtain ⟨av, ac, rfl, _⟩ := OwnE.at hown
        have HO : Aside (OwnE wr (W.heap.size + 1) (.slice av acc.length ac) acc) := hown
        clear hown
        go_wp2_with fail
        go_region_held3 (fun u => u.cell? ⟨b, off + i * 2, none⟩ = some (.int .i64 x) ∧ u.cell? ⟨b, off + i * 2 + 1, none⟩ = some (.int .i64 y))
          (first
            | exact ⟨z0, z1⟩
            | go_keep)
          (first
            | (refine step_of (by rfl) (wpE_app2 (base := W.heap.size + 1) _ _ (by rfl) _ wr.heap.size acc y x (by rfl) (OwnE.below HO.out (by go_grown)) (by rfl) (by simp) (by simp) (by omega) (by simp; omega) ?_); intro g2 cap2 u2 own2 gr2; have z0 := gr2.cell (cellIn (w' := wr.drew.alloc (.cells #[.int .i64 y, .int .i64 x] 52)) (by go_grown) hc0) (ownE_far HO.out (show b < W.heap.size + 1 by omega)); have z1 := gr2.cell (cellIn (w' := wr.drew.alloc (.cells #[.int .i64 y, .int .i64 x] 52)) (by go_grown) hc1) (ownE_far HO.out (show b < W.heap.size + 1 by omega)))
            | fail)
        have hoa := OwnE.below (w' := wr.drew.alloc (.cells #[.int .i64 y, .int .i64 x] 52)) HO.out (by go_grown)
        have e0 := gr2.cell (cellIn (w' := wr.drew.alloc (.cells #[.int .i64 y, .int .i64 x] 52)) (by go_grown) d0) (ownE_far HO.out (Nat.lt_succ_self _))
        have e1 := gr2.cell (cellIn (w' := wr.drew.alloc (.cells #[.int .i64 y, .int .i64 x] 52)) (by go_grown) d1) (ownE_far HO.out (Nat.lt_succ_self _))
        have hB2 : Below W.heap.size W u2 := grownE_below (bvia hB (by go_grown)) hoa (Nat.le_succ _) gr2
        clear z0 z1 gr2 hoa HO hB d0 d1 hc0 hc1
        go_wp2
        go_roundg (l.length - (i + 1))
        case measure => omega
        case rel => exact ⟨i + 1, by omega, rfl, by go_num, by rw [HTT.out]; simpa using own2, e0, e1, hB2⟩
      · obtain rfl : i = l.length := by omega
        rw [List.take_of_length_le (Nat.le_refl _)] at hown
        obtain ⟨ao2, cap2, rfl, a2⟩ := OwnE.at hown
        clear hown
        go_wp2_with fail
        refine (most_any ao2 cap2 (P.turn l) m n _ a2).mono ?_
        rintro e w3 ⟨v3, k3, rfl, own3, hb3, _, hok3⟩
        obtain ⟨ao3, cap3, rfl, a3⟩ := OwnE.at own3
        have hl3 : k3.length = k1.length := (hok3 HT.out).2.2.one (max_turn HM.out)
        rw [HT.out, hl3]
        have hB3 := bvia hB hb3
        have f0 := cellIn hb3 d0
        have f1 := cellIn hb3 d1
        have hl3' := SlAt.below REdge.mono hl hB3
        have hlt3 : W.heap.size < w3.heap.size := World.block_lt_of_cell? w3 _ f0
        clear own3 a3 hok3 hl3 hb3 d0 d1 hB a2 hlt0
        obtain ⟨l2, hl2⟩ : ∃ l2, l ++ [(p, q)] = l2 := ⟨_, rfl⟩
        have HL2 : Aside (l ++ [(p, q)] = l2) := hl2
        clear hl2
        go_wp2_with fail
        go_region_held3 (fun u => u.cell? ⟨W.heap.size, 0, none⟩ = some (.int .i64 p) ∧ u.cell? ⟨W.heap.size, 1, none⟩ = some (.int .i64 q))
          (first
            | exact ⟨z0, z1⟩
            | exact ⟨cellIn bW2 f0, cellIn bW2 f1⟩
            | exact ⟨cellIn bW f0, cellIn bW f1⟩
            | go_keep)
          (first
            | (refine step_of (by rfl) (wpE_app1 (W0 := w3) _ _ (by rfl) _ ao cap l (by rfl) (by first | exact Nat.le_refl _ | exact Nat.le_add_right _ _) (by first | exact heap_alloc_new _ _ | exact heap_old2 _ _ _ | exact heap_new2 _ _ _) (by rfl) (SlAt.below REdge.mono hl3' (by go_grown)) (by omega) (by go_grown) ?_); intro ao4 cap4 u4 own4 bu4 bW)
            | (refine step_of (by rfl) (wpE_app3 (base := w3.heap.size) _ _ (by rfl) _ _ l l2 p q HL2.out (by rfl) (by first | exact own4 | exact OwnE.below own4 (by go_grown)) (by rfl) (by first | simp | exact cellIn bu4 (by simp)) (by first | simp | exact cellIn bu4 (by simp)) (by omega) (by first | exact bW.size | (have := bW.size; simp; omega)) ?_); intro g5 cap5 u5 own5 gr5; have bW2 : Below w3.heap.size w3 u5 := (by first | exact grownE_below bW own4 (Nat.le_refl _) gr5 | exact grownE_below (bvia bW (by go_grown)) (OwnE.below own4 (by go_grown)) (Nat.le_refl _) gr5))
            | (go_at_call 22; refine (most_any _ _ l2 n m _ (OwnE.at' own5)).mono ?_; rintro e w6 ⟨v6, k6, rfl, own6, hb6, hbad6, hok6⟩; obtain ⟨ao6, cap6, rfl, a6⟩ := OwnE.at own6; have z0 := cellIn hb6 (cellIn bW2 f0); have z1 := cellIn hb6 (cellIn bW2 f1)))
        all_goals (
          have hB6 : Below W.heap.size W w6 := bvia hB3 (bvia bW2 hb6)
          have HK : Aside (P.graphE n m l2 = 0 → k6.length = k1.length ∨ k6.length = k1.length + 1) := fun h => max_more HM.out (by rw [HL2.out]; exact (hok6 h).2.2)
          clear hok6 hbad6 own6 a6 own4 own5 bu4 bW z0 z1 hb6
          cases hz2 : (P.graphE n m l2 != 0)
          · rcases HK.out (by simpa using hz2) with h | h
            · have h' : ((k6.length : Int) == (k1.length : Int)) = true := by rw [h]; simp
              clear h
              go_wp2
              go_ret
              exact ⟨by simp, hB6⟩
            · have h' : ((k6.length : Int) == (k1.length : Int)) = false := by rw [beq_eq_false_iff_ne]; omega
              have h2 : ((k6.length : Int) == (k1.length : Int) + 1) = true := by rw [h]; simp
              clear h
              go_wp2
              go_ret
              exact ⟨by simp, hB6⟩
          · go_wp2
            go_ret
            exact ⟨rfl, hB6⟩)
  · have hz' : (P.graphE n m l != 0) = true := by simpa using hz
    obtain rfl := hbad1 hz
    clear hbad1 hok1
    go_wp2
    go_ret
    exact ⟨rfl, hB1⟩

end Go.Proofs.Ytcifdkggigfnlab
