/- The sums of a folio, gone through by a loop over a function: sums, its function literal. -/
import Derived.Test.YtagjlckmemmflacFolA
import Derived.RangeFuncNested
import Derived.RangeFuncBound
import Derived.RangeFuncCalls
import Derived.RangeFuncLeaves
import Derived.Shelf.Abstract
import Derived.Shelf.RegionOpen
import Derived.OwnWalkIn
import Derived.TacticsInMore
import Derived.LoopNIn
import Derived.LoopIn
namespace Go.Proofs.Ytagjlckmemmflac
open Go.RowKit Go.Shelf
set_option linter.unusedSimpArgs false
set_option linter.unusedVariables false
attribute [local go_sem] Oper.semAt_some

/-- The sums, up to each entry that counts. -/
def P.sumsL (p : Ent → Bool) : Int → List Ent → List Int
  | _, [] => []
  | s, x :: r => if p x = true then (s + x.2.2) :: P.sumsL p (s + x.2.2) r else P.sumsL p s r

/-- What a round keeps: all below n₀, and what lies in the cell of block B. -/
def Kept (n₀ B : Nat) (W W' : World) : Prop := Below n₀ W W' ∧ ∀ v, W.cell? ⟨B, 0, none⟩ = some v → W'.cell? ⟨B, 0, none⟩ = some v
theorem Kept.t {n₀ B : Nat} {A C D : World} (h : Kept n₀ B A C) (k : Kept n₀ B C D) : Kept n₀ B A D := ⟨h.1.trans k.1, fun v hv => k.2 v (h.2 v hv)⟩
theorem Kept.b {n₀ B : Nat} {w : World} (hn : n₀ ≤ w.heap.size) (hB : B < w.heap.size) (W : World) (l : Nat) (o o' : Obj) (hl : w.heap.size ≤ l) (h : W.heap[l]? = some o) (h1 : o.isCells = false) (h2 : o.isWalk = false) : Kept n₀ B W (W.putObj l o') :=
  ⟨belowK_b (w := w) hn W l o o' hl h h1 h2, fun v hv => by
    have e : (W.putObj l o').heap[B]? = W.heap[B]? := World.putObj_heap_other (by omega)
    rw [← hv]
    simp only [World.cell?, e]⟩

theorem grown_of_below {w w' : World} (h : Below w.heap.size w w') : w.grownBy w' none := ⟨h.os, h.tape, h.output, h.size, fun k hk _ => h.block k hk⟩

set_option maxRecDepth 100000 in
set_option maxHeartbeats 4000000 in
/-- The function literal of 'sums', for every loop body that keeps what lay below n₀, and the cell that holds which entries count. -/
theorem sums1_in (n : Nat) (hn : 1 ≤ n) (l Bl Bc n₀ : Nat) (ao : Option Addr) (cap : Nat) (es : List Ent) (F : Nat) (p : Ent → Bool) (J Jx : List Int → World → Prop) (W : World)
    (hcf : ∀ (args : Array Value) (wx : World), (callFunc F args).run Try.prog wx = .ok (.enter F args) wx)
    (hp : Hid (∀ (x : Ent) (wx : World), Calls Try.prog F #[V.ent x] wx fun e w' => e = .returned (.bool (p x)) ∧ Below wx.heap.size wx w'))
    (hJ : AbidesFrom W.heap.size J) (hJx : AbidesFrom W.heap.size Jx)
    (hY : ∀ pre x W1, J pre W1 → pre.length < es.length → YieldAt Fence.wide (n - 1) Try.prog l #[.int .i64 x] W1 fun e W' =>
      (e = .returned (.bool true) ∧ J (pre ++ [x]) W' ∧ Kept n₀ Bc W1 W') ∨ (e = .returned (.bool false) ∧ Jx (pre ++ [x]) W'))
    (w0 : World) (hw0 : w0.heap.size = n₀) (hb0 : Below n₀ w0 W) (hes : EntsAt w0 ao cap es) (h12 : es.length ≤ 12) (ha : ∀ x ∈ es, -100000000 ≤ x.2.2 ∧ x.2.2 ≤ 100000000)
    (hBl : W.cell? ⟨Bl, 0, none⟩ = some (.slice ao es.length cap)) (hBc : W.cell? ⟨Bc, 0, none⟩ = some (.func (.func F) #[] #[])) (h0 : J [] W) :
    CallsIn Fence.wide n Try.prog 57 #[.func (.yield l) #[] #[], .pointer (some ⟨Bl, 0, none⟩), .pointer (some ⟨Bc, 0, none⟩)] W fun e W' => (∃ v, e = .returned v) ∧
      ((∃ ys, ys = P.sumsL p 0 es ∧ J ys W') ∨ (∃ pre, pre <+: P.sumsL p 0 es ∧ Jx pre W')) := by
  have hle := hes.le
  have hmx := hes.max
  unfold maxLen at hmx
  have HA : Aside (∀ x ∈ es, -100000000 ≤ x.2.2 ∧ x.2.2 ≤ 100000000) := ha
  clear ha
  refine callsIn_of_wp Try.func57 rfl trivial ?_ rfl
  simp only [Try.ntmps57, List.size_toArray, List.length_cons, List.length_nil, Nat.reduceAdd, Nat.reduceSub, Array.replicate_succ, Array.replicate_zero, List.push_toArray, List.append_toArray, List.nil_append, List.cons_append]
  gi_wp2
  gi_loopw [4, 9] (fun u i wr => ∃ (k : Nat) (s : Int) (pre : List Int), k ≤ es.length ∧ i = .int .i64 k ∧ u = .int .i64 s ∧ pre ++ P.sumsL p s (es.drop k) = P.sumsL p 0 es ∧ pre.length ≤ k ∧ -100000000 * (k : Int) ≤ s ∧ s ≤ 100000000 * (k : Int) ∧ J pre wr ∧ Below n₀ w0 wr ∧ wr.cell? ⟨Bc, 0, none⟩ = some (.func (.func F) #[] #[]))
    (fun u i _ => es.length - (intOf i).toNat)
  case atStart => exact ⟨0, 0, [], Nat.zero_le _, rfl, rfl, rfl, by simp, by simp, by simp, h0, hb0, hBc⟩
  case round =>
    obtain ⟨k, s, pre, hk, rfl, rfl, hP, hpl, hs0, hs1, hJs, hbw, hc⟩ := hrel
    have HP : Aside (pre ++ P.sumsL p s (es.drop k) = P.sumsL p 0 es) := hP
    clear hP
    by_cases hlt : k < es.length
    · obtain ⟨b, off, x, y, z, rfl, hbl, hd, e0, e1, e2⟩ := EntsAt.get hes (w' := wr) (by rw [hw0]; exact hbw) k hlt
      have hz := HA.out _ (memA hlt hd)
      simp only at hz
      have hd' := HP.out
      rw [hd, P.sumsL] at hd'
      simp only at hd'
      have HP2 : Aside (pre ++ (if p (x, y, z) = true then (s + z) :: P.sumsL p (s + z) (es.drop (k + 1)) else P.sumsL p s (es.drop (k + 1))) = P.sumsL p 0 es) := hd'
      clear hd hd' HP
      have hBcl : Bc < wr.heap.size := World.block_lt_of_cell? wr _ hc
      have HBs : Aside (n₀ ≤ wr.heap.size) := by have := hbw.size; rw [← hw0]; rw [hw0]; have h2 := hb0.size; show n₀ ≤ _; omega
      gi_wp2_with fail
      refine ⟨trivial, (callsIn_wide.2 (hp.out (x, y, z) _)).mono ?_⟩
      rintro e w1 ⟨rfl, hb1⟩
      have hB1 : Below wr.heap.size wr w1 := bvia (by go_grown) hb1
      have hJ1 := hJ pre wr w1 none hJs (grown_of_below hB1) (fun r e => by cases e)
      have hz2 : w1.cell? ⟨wr.heap.size, 2, none⟩ = some (.int .i64 z) := cellIn hb1 (by simp)
      have hc1 := cellIn hB1 hc
      have hbw1 : Below n₀ w0 w1 := hbw.trans (hB1.mono HBs.out)
      clear hb1 hB1 hJs hbw hc e0 e1 e2
      cases hpx : p (x, y, z)
      · have HP3 : Aside (pre ++ P.sumsL p s (es.drop (k + 1)) = P.sumsL p 0 es) := by
          have := HP2.out
          rw [hpx] at this
          show _ = _
          simpa using this
        clear HP2
        gi_wp2
        go_roundw
        case rel => exact ⟨k + 1, s, pre, by omega, by simp, rfl, HP3.out, by omega, by omega, by omega, hJ1, hbw1, hc1⟩
        case measure => simp [intOf]; omega
      · have HP3 : Aside ((pre ++ [s + z]) ++ P.sumsL p (s + z) (es.drop (k + 1)) = P.sumsL p 0 es) := by
          have := HP2.out
          rw [hpx] at this
          show _ = _
          simpa using this
        clear HP2
        obtain ⟨fn, tmps, assign, body, hy, hR⟩ := hY pre (s + z) w1 hJ1 (by omega)
        gi_wp2
        refine hR.mono ?_
        rintro e W3 (⟨rfl, hJ3, hk3⟩ | ⟨rfl, hJx3⟩)
        · gi_wp2
          go_roundw
          case rel => exact ⟨k + 1, s + z, pre ++ [s + z], by omega, by simp, rfl, HP3.out, by simp; omega, by omega, by omega, hJ3, hbw1.trans hk3.1, hk3.2 _ hc1⟩
          case measure => simp [intOf]; omega
        · gi_wp2
          refine bodyPost_ret (results_none rfl _ _ _) rfl ?_
          exact ⟨⟨_, rfl⟩, .inr ⟨pre ++ [s + z], ⟨_, HP3.out⟩, hJx3⟩⟩
    · obtain rfl : k = es.length := by omega
      have hP := HP.out
      rw [List.drop_of_length_le (Nat.le_refl _), P.sumsL, List.append_nil] at hP
      gi_wp2
      go_end0
      exact ⟨⟨_, rfl⟩, .inl ⟨_, hP, hJs⟩⟩

end Go.Proofs.Ytagjlckmemmflac
