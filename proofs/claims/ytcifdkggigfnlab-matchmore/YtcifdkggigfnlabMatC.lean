/- How a matching lies in memory; walks of noPairs and first. -/
import Derived.Test.YtcifdkggigfnlabMatB
namespace Go.Proofs.Ytcifdkggigfnlab
open Go.RowKit Go.Maps Go.WideMaps
set_option linter.unusedSimpArgs false
set_option linter.unusedVariables false

/-- Nothing that was there is other, but for blocks G and M. -/
structure Mut (G M : Nat) (w w' : World) : Prop where
  os : w'.os = w.os
  tape : w'.tape = w.tape
  output : w'.output = w.output
  size : w.heap.size ≤ w'.heap.size
  block : ∀ k, k < w.heap.size → k ≠ G → k ≠ M → w'.heap[k]? = w.heap[k]?

theorem Mut.refl (G M : Nat) (w : World) : Mut G M w w := ⟨rfl, rfl, rfl, Nat.le_refl _, fun _ _ _ _ => rfl⟩
theorem Mut.trans {G M : Nat} {a b c : World} (h : Mut G M a b) (k : Mut G M b c) : Mut G M a c :=
  ⟨k.os.trans h.os, k.tape.trans h.tape, k.output.trans h.output, Nat.le_trans h.size k.size, fun j h1 h2 h3 => (k.block j (Nat.lt_of_lt_of_le h1 h.size) h2 h3).trans (h.block j h1 h2 h3)⟩
theorem Mut.ofBelow {G M : Nat} {w w' : World} (h : Below w.heap.size w w') : Mut G M w w' := ⟨h.os, h.tape, h.output, h.size, fun k hk _ _ => h.block k hk⟩
theorem Mut.ofGrown {G M : Nat} {w w' : World} (h : w.grownBy w' (some M)) : Mut G M w w' := ⟨h.os, h.tape, h.output, h.size, fun k hk _ h2 => h.block k hk (by simpa using h2)⟩
theorem Mut.ofSet {G M o : Nat} {w : World} {v : Value} : Mut G M w (w.setCell ⟨G, o, none⟩ v) := ⟨rfl, rfl, rfl, by simp, fun k _ h1 _ => Go.Deep.blk_setCell_other _ _ _ _ h1⟩
theorem Mut.cell {G M b o : Nat} {w w' : World} {v : Value} (h : Mut G M w w') (hc : w.cell? ⟨b, o, none⟩ = some v) (h1 : b ≠ G) (h2 : b ≠ M) : w'.cell? ⟨b, o, none⟩ = some v := by
  have := h.block b (World.block_lt_of_cell? w _ hc) h1 h2
  rw [← hc]
  simp only [World.cell?, this]
theorem Mut.map {G M B n : Nat} {w w' : World} {K : TypeId} {D : DataW Unit} (h : Mut G M w w') (hm : w.ownsMap Try.prog K (unitElem (H := Unit)) B n D) (h1 : B ≠ G) (h2 : B ≠ M) : w'.ownsMap Try.prog K (unitElem (H := Unit)) B n D := by
  have hb := h.block B hm.lt h1 h2
  obtain ⟨es, clock, hk, F, hs, hD⟩ := hm
  exact ⟨es, clock, hb.trans hk, F, hs, hD⟩
theorem Mut.below {G M : Nat} {w0 w w' : World} (hB : Below w0.heap.size w0 w) (h : Mut G M w w') (hG : w0.heap.size ≤ G) (hM : w0.heap.size ≤ M) : Below w0.heap.size w0 w' :=
  ⟨h.os.trans hB.os, h.tape.trans hB.tape, h.output.trans hB.output, Nat.le_trans hB.size h.size, fun k hk => (h.block k (Nat.lt_of_lt_of_le hk hB.size) (by omega) (by omega)).trans (hB.block k hk)⟩

/-- A matching in memory: B the set of edges, G who has each right one (below 0: nobody), M the right ones that were asked. -/
structure PSt (w : World) (B G M : Nat) (E : List Edge) (R : Nat) (s : Nat → Int) (A : List Int) : Prop where
  edges : ESet w B E
  owner : w.rowIs G 3 R (fun r => .int .i64 (s r))
  asked : ISet w M A
  bg : B ≠ G
  bm : B ≠ M
  gm : G ≠ M
theorem PSt.below {w w' : World} {B G M : Nat} {E : List Edge} {R : Nat} {s : Nat → Int} {A : List Int} (h : PSt w B G M E R s A) (hb : Below w.heap.size w w') : PSt w' B G M E R s A :=
  ⟨set_below h.edges hb, h.owner.of_block (hb.block G h.owner.lt), set_below h.asked hb, h.bg, h.bm, h.gm⟩

theorem set4 {v : World} {S : Nat} {x y z u : Value} (a b c d : Value) (h0 : v.cell? ⟨S, 0, none⟩ = some x) (h1 : v.cell? ⟨S, 1, none⟩ = some y) (h2 : v.cell? ⟨S, 2, none⟩ = some z) (h3 : v.cell? ⟨S, 3, none⟩ = some u) :
    ((((v.setCell ⟨S, 0, none⟩ a).setCell ⟨S, 1, none⟩ b).setCell ⟨S, 2, none⟩ c).setCell ⟨S, 3, none⟩ d).cell? ⟨S, 0, none⟩ = some a ∧ ((((v.setCell ⟨S, 0, none⟩ a).setCell ⟨S, 1, none⟩ b).setCell ⟨S, 2, none⟩ c).setCell ⟨S, 3, none⟩ d).cell? ⟨S, 1, none⟩ = some b ∧
    ((((v.setCell ⟨S, 0, none⟩ a).setCell ⟨S, 1, none⟩ b).setCell ⟨S, 2, none⟩ c).setCell ⟨S, 3, none⟩ d).cell? ⟨S, 2, none⟩ = some c ∧ ((((v.setCell ⟨S, 0, none⟩ a).setCell ⟨S, 1, none⟩ b).setCell ⟨S, 2, none⟩ c).setCell ⟨S, 3, none⟩ d).cell? ⟨S, 3, none⟩ = some d := by
  obtain ⟨k0, k1, k2⟩ := set3 a b c h0 h1 h2
  refine ⟨?_, ?_, ?_, ?_⟩
  · rw [World.cell?_setCell_other (h := by simp)]; exact k0
  · rw [World.cell?_setCell_other (h := by simp)]; exact k1
  · rw [World.cell?_setCell_other (h := by simp)]; exact k2
  · rw [World.cell?_setCell_same (u := u) (h := by rw [World.cell?_setCell_other (h := by simp), World.cell?_setCell_other (h := by simp), World.cell?_setCell_other (h := by simp)]; exact h3)]

set_option maxHeartbeats 2000000 in
theorem noPairs_any (n R B : Nat) (hR : R ≤ 16) (w : World) :
    Calls Try.prog 45 #[.agg #[.int .i64 n, .int .i64 R, .map (some B)]] w fun e w' => e = .returned (.agg #[.int .i64 n, .int .i64 R, .map (some B), .slice (some ⟨w.heap.size + 1 + 1, 0, none⟩) R R]) ∧ w'.rowIs (w.heap.size + 1 + 1) 3 R (fun _ => .int .i64 (-1)) ∧ Below w.heap.size w w' := by
  obtain ⟨i0, hi, hi0, hi1, hi2⟩ := info_parts Try.infoInt
  have HI : Aside (Try.prog.info? 3 = some i0 ∧ i0.zero = some (.int .i64 0) ∧ i0.size = 1 ∧ i0.bytes = 8) := ⟨hi, hi0, hi1, hi2⟩
  clear hi hi0 hi1 hi2
  go_enter Try.func45, Try.ntmps45
  go_wp2_with (at_make; refine wpList_make_full _ (by rfl) _ _ 22 (by rfl) w.heap.size 3 i0 _ 1 Try.underlying22 HI.out.1 HI.out.2.1 HI.out.2.2.1 _ _ _ _ R (by rfl) (by rfl) rfl rfl (by rw [HI.out.2.2.2]; omega) (by unfold maxLen; omega) (by simp; omega) ?_; intro w1 hrow1 hgr1; have hb1 := below_grown hgr1; have hB1 : Below w.heap.size w w1 := bvia (by go_grown) hb1; have HR1 : Aside (w1.rowIs (w.heap.size + 1 + 1) 3 R (fun _ => .int .i64 0)) := (by show World.rowIs _ _ _ _ _; have := row_of_made hrow1; simpa using this); clear hrow1 hgr1)
  have c0 : w1.cell? ⟨w.heap.size, 0, none⟩ = some (.int .i64 n) := cellIn hb1 (by go_simp)
  have c1 : w1.cell? ⟨w.heap.size, 1, none⟩ = some (.int .i64 R) := cellIn hb1 (by go_simp)
  have c2 : w1.cell? ⟨w.heap.size, 2, none⟩ = some (.map (some B)) := cellIn hb1 (by go_simp)
  have d0 : w1.cell? ⟨w.heap.size + 1, 0, none⟩ = some (.int .i64 0) := cellIn hb1 (by go_simp)
  have d1 : w1.cell? ⟨w.heap.size + 1, 1, none⟩ = some (.int .i64 0) := cellIn hb1 (by go_simp)
  have d2 : w1.cell? ⟨w.heap.size + 1, 2, none⟩ = some (.map none) := cellIn hb1 (by go_simp)
  have d3 : w1.cell? ⟨w.heap.size + 1, 3, none⟩ = some (.slice none 0 0) := cellIn hb1 (by go_simp)
  have df : ∀ j, w1.frozen? ⟨w.heap.size + 1, j, none⟩ = false := fun j => (hb1.frozen (p := ⟨w.heap.size + 1, j, none⟩) (by simp)).trans (by go_simp)
  have hz1 : w.heap.size + 1 + 1 < w1.heap.size := HR1.out.lt
  clear hb1 HI
  go_wp2
  go_loopg [10] R (fun g i wr => ∃ (k : Nat), k ≤ R ∧ g = R - k ∧ i = .int .i64 k ∧ wr.rowIs (w.heap.size + 1 + 1) 3 R (fun r => .int .i64 (if r < k then -1 else 0)) ∧ Below (w.heap.size + 1 + 1) w1 wr)
  case atStart => exact ⟨0, Nat.zero_le _, rfl, rfl, HR1.out.congr (fun r _ => by simp), Below.refl _ _⟩
  case round =>
    obtain ⟨k, hk, rfl, rfl, hR2, hb⟩ := hrel
    have HR : Aside (wr.rowIs (w.heap.size + 1 + 1) 3 R (fun r => .int .i64 (if r < k then -1 else 0))) := hR2
    have hzr : w.heap.size + 1 + 1 < wr.heap.size := hR2.lt
    by_cases hlt : k < R
    · have hce : wr.cell? ⟨w.heap.size + 1 + 1, k, none⟩ = some (.int .i64 0) := by rw [hR2.cell hlt, if_neg (by omega)]
      have hfr := hR2.frozen k
      clear hR2
      go_wp2
      go_roundg (R - (k + 1))
      case measure => omega
      case rel =>
        refine ⟨k + 1, by omega, rfl, by go_num, (HR.out.set k _).congr (fun r hr => ?_), hb.setCell (by simp) _⟩
        by_cases e : r = k
        · rw [if_pos e, if_pos (by omega)]
        · rw [if_neg e]
          by_cases e2 : r < k
          · rw [if_pos e2, if_pos (by omega)]
          · rw [if_neg e2, if_neg (by omega)]
    · obtain rfl : k = R := by omega
      clear hR2
      have x0 := (hb.cell (p := ⟨w.heap.size, 0, none⟩) (by show w.heap.size < _; omega)).trans c0
      have x1 := (hb.cell (p := ⟨w.heap.size, 1, none⟩) (by show w.heap.size < _; omega)).trans c1
      have x2 := (hb.cell (p := ⟨w.heap.size, 2, none⟩) (by show w.heap.size < _; omega)).trans c2
      have y0 := (hb.cell (p := ⟨w.heap.size + 1, 0, none⟩) (by show w.heap.size + 1 < _; omega)).trans d0
      have y1 := (hb.cell (p := ⟨w.heap.size + 1, 1, none⟩) (by show w.heap.size + 1 < _; omega)).trans d1
      have y2 := (hb.cell (p := ⟨w.heap.size + 1, 2, none⟩) (by show w.heap.size + 1 < _; omega)).trans d2
      have y3 := (hb.cell (p := ⟨w.heap.size + 1, 3, none⟩) (by show w.heap.size + 1 < _; omega)).trans d3
      have f0 := (hb.frozen (p := ⟨w.heap.size + 1, 0, none⟩) (by show w.heap.size + 1 < _; omega)).trans (df 0)
      have f1 := (hb.frozen (p := ⟨w.heap.size + 1, 1, none⟩) (by show w.heap.size + 1 < _; omega)).trans (df 1)
      have f2 := (hb.frozen (p := ⟨w.heap.size + 1, 2, none⟩) (by show w.heap.size + 1 < _; omega)).trans (df 2)
      have f3 := (hb.frozen (p := ⟨w.heap.size + 1, 3, none⟩) (by show w.heap.size + 1 < _; omega)).trans (df 3)
      obtain ⟨k0, k1, k2, k3⟩ := set4 (.int .i64 n) (.int .i64 k) (.map (some B)) (.slice (some ⟨w.heap.size + 1 + 1, 0, none⟩) k k) y0 y1 y2 y3
      clear c0 c1 c2 d0 d1 d2 d3 df
      go_wp2
      refine bodyPost_ret (v := .agg #[.int .i64 n, .int .i64 k, .map (some B), .slice (some ⟨w.heap.size + 1 + 1, 0, none⟩) k k]) (by simp [results, Try.results45, go_sem, k0, k1, k2, k3]) rfl ⟨rfl, ?_, ?_⟩
      · have h := HR.out.congr (g := fun _ => .int .i64 (-1)) (fun r hr => by rw [if_pos hr])
        exact (((h.setOther (a := ⟨w.heap.size + 1, 0, none⟩) (by simp) _).setOther (a := ⟨w.heap.size + 1, 1, none⟩) (by simp) _).setOther (a := ⟨w.heap.size + 1, 2, none⟩) (by simp) _).setOther (a := ⟨w.heap.size + 1, 3, none⟩) (by simp) _
      · have hB : Below w.heap.size w wr := hB1.trans (hb.mono (by omega))
        exact (((hB.setCell (p := ⟨w.heap.size + 1, 0, none⟩) (by simp) _).setCell (p := ⟨w.heap.size + 1, 1, none⟩) (by simp) _).setCell (p := ⟨w.heap.size + 1, 2, none⟩) (by simp) _).setCell (p := ⟨w.heap.size + 1, 3, none⟩) (by simp) _

set_option maxHeartbeats 1000000 in
/-- 'first', with whatever function literal: it may change things; I k holds ahead of its k-th call, J k where it answers yes. -/
theorem first_inv (n F : Nat) (cs : Array Value) (I : Nat → World → Prop) (J : Nat → World → Prop) (w : World) (hn : n ≤ 1000) (h0 : Hid (I 0 w))
    (hcf : ∀ (args : Array Value) (wx : World), (callFunc F args).run Try.prog wx = .ok (.enter F args) wx)
    (hp : Hid (∀ (k : Nat) (wx : World), k < n → I k wx → Calls Try.prog F (#[.int .i64 k] ++ cs) wx fun e w' => (e = .returned (.bool false) ∧ I (k + 1) w') ∨ (e = .returned (.bool true) ∧ J k w'))) :
    Calls Try.prog 56 #[.int .i64 n, .func (.func F) #[] cs] w fun e w' => (e = .returned (.int .i64 n) ∧ I n w') ∨ ∃ k : Nat, k < n ∧ e = .returned (.int .i64 k) ∧ J k w' := by
  go_enter Try.func56, Try.ntmps56
  go_wp2
  go_loopg [7] n (fun g i wr => ∃ (k : Nat), k ≤ n ∧ g = n - k ∧ i = .int .i64 k ∧ Hid (I k wr))
  case atStart => exact ⟨0, Nat.zero_le _, rfl, rfl, h0⟩
  case round =>
    obtain ⟨k, hk, rfl, rfl, hI⟩ := hrel
    by_cases hlt : k < n
    · go_wp2_with fail
      refine (hp.out k _ hlt hI.out).mono ?_
      rintro e w1 (⟨rfl, hi1⟩ | ⟨rfl, hj1⟩)
      · have HI1 : Hid (I (k + 1) w1) := hi1
        clear hi1
        go_wp2
        go_roundg (n - (k + 1))
        case measure => omega
        case rel => exact ⟨k + 1, by omega, rfl, by go_num, HI1⟩
      · have HJ1 : Hid (J k w1) := hj1
        clear hj1
        go_wp2
        go_ret
        exact .inr ⟨k, hlt, rfl, HJ1.out⟩
    · obtain rfl : k = n := by omega
      go_wp2
      go_ret
      exact .inl ⟨rfl, hI.out⟩

end Go.Proofs.Ytcifdkggigfnlab
