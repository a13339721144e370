import Derived.Test.YtlamhfbdeinkkaeGreatBoBs
set_option maxRecDepth 10000
/- The reference: CheckBooking of a promise; CheckBooking; CheckAll. -/
namespace Go.Proofs.YtlamhfbdeinkkaeGreat.Bk
open Go.RowKit
set_option linter.unusedSimpArgs false
set_option linter.unusedVariables false

end Go.Proofs.YtlamhfbdeinkkaeGreat.Bk

/- The reference: CheckAll. Those bookings that count, gone through by a loop over a function. -/
namespace Go.Proofs.YtlamhfbdeinkkaeGreat.Bk
open Go.RowKit Go.Shelf
set_option linter.unusedSimpArgs false
set_option linter.unusedVariables false
attribute [local go_sem] Oper.semAt_some

section
variable {Ok : BkV → Prop}
theorem bkvs_get {w w' : World} {ao : Option Addr} {cap : Nat} {es : List {x : BkV // Ok x}} (h : BkVsAt w ao cap (es.map (·.1))) (hb : Below w.heap.size w w') (k : Nat) (hk : k < es.length) :
    ∃ b off, ∃ y : {x : BkV // Ok x}, ao = some ⟨b, off, none⟩ ∧ b < w.heap.size ∧ es.drop k = y :: es.drop (k + 1) ∧ BkAt w' b (off + k * 11) y.1.1 y.1.2.1 y.1.2.2 ∧ Fo.EntsAt w' y.1.2.1 y.1.2.2 y.1.1.fol := by
  obtain ⟨b, off, x, h1, h2, h3, h4, h5⟩ := BkVsAt.get h hb k (by simpa using hk)
  have hd : es.drop k = es[k] :: es.drop (k + 1) := List.drop_eq_getElem_cons hk
  have e : x = es[k].1 := by
    rw [← List.map_drop, hd, List.map_cons] at h3
    simp only [List.cons.injEq] at h3
    exact h3.1.symm
  subst e
  exact ⟨b, off, es[k], h1, h2, hd, h4, h5⟩

set_option maxRecDepth 100000 in
set_option maxHeartbeats 4000000 in
/-- The function literal of 'those', for every loop body that keeps what lay below n₀, and the cell that holds which bookings count. -/
theorem those1_in (n : Nat) (hn : 1 ≤ n) (l Bl Bc n₀ : Nat) (ao : Option Addr) (cap : Nat) (es : List {x : BkV // Ok x}) (F : Nat) (cs : Array Value) (p : Bkg → Bool) (J Jx : List {x : BkV // Ok x} → World → Prop) (W w0 : World)
    (hcf : ∀ (args : Array Value) (wx : World), (callFunc F args).run Tryz.prog wx = .ok (.enter F args) wx)
    (hp : Hid (∀ (x : BkV) (wx : World), Below n₀ w0 wx → Calls Tryz.prog F (#[V.bkv x] ++ cs) wx fun e w' => e = .returned (.bool (p x.1)) ∧ Below wx.heap.size wx w'))
    (hJ : AbidesFrom W.heap.size J) (hJx : AbidesFrom W.heap.size Jx)
    (hY : ∀ pre x W1, J pre W1 → pre.length < es.length → YieldAt Fence.wide (n - 1) Tryz.prog l #[V.bkv x.1] W1 fun e W' =>
      (e = .returned (.bool true) ∧ J (pre ++ [x]) W' ∧ Fo.Kept n₀ Bc W1 W') ∨ (e = .returned (.bool false) ∧ Jx (pre ++ [x]) W'))
    (hw0 : w0.heap.size = n₀) (hb0 : Below n₀ w0 W) (hes : BkVsAt w0 ao cap (es.map (·.1)))
    (hBl : W.cell? ⟨Bl, 0, none⟩ = some (.slice ao es.length cap)) (hBc : W.cell? ⟨Bc, 0, none⟩ = some (.func (.func F) #[] cs)) (h0 : J [] W) :
    CallsIn Fence.wide n Tryz.prog 194 #[.func (.yield l) #[] #[], .pointer (some ⟨Bl, 0, none⟩), .pointer (some ⟨Bc, 0, none⟩)] W fun e W' => (∃ v, e = .returned v) ∧
      ((∃ ys, ys = es.filter (fun x => p x.1.1) ∧ J ys W') ∨ (∃ pre, pre <+: es.filter (fun x => p x.1.1) ∧ Jx pre W')) := by
  have hle : es.length ≤ cap := by simpa using hes.le
  have hmx := hes.max
  unfold maxLen at hmx
  refine callsIn_of_wp Tryz.func194 rfl trivial ?_ rfl
  simp only [Tryz.ntmps194, List.size_toArray, List.length_cons, List.length_nil, Nat.reduceAdd, Nat.reduceSub, Array.replicate_succ, Array.replicate_zero, List.push_toArray, List.append_toArray, List.nil_append, List.cons_append]
  gi_wp2
  gi_loopw [8] (fun i wr => ∃ (k : Nat) (pre : List {x : BkV // Ok x}), k ≤ es.length ∧ i = .int .i64 k ∧ pre ++ (es.drop k).filter (fun x => p x.1.1) = es.filter (fun x => p x.1.1) ∧ pre.length ≤ k ∧ J pre wr ∧ Below n₀ w0 wr ∧ wr.cell? ⟨Bc, 0, none⟩ = some (.func (.func F) #[] cs))
    (fun i _ => es.length - (intOf i).toNat)
  case atStart => exact ⟨0, [], Nat.zero_le _, rfl, rfl, by simp, h0, hb0, hBc⟩
  case round =>
    obtain ⟨k, pre, hk, rfl, hP, hpl, hJs, hbw, hc⟩ := hrel
    have HP : Aside (pre ++ (es.drop k).filter (fun x => p x.1.1) = es.filter (fun x => p x.1.1)) := hP
    clear hP
    by_cases hlt : k < es.length
    · obtain ⟨b, off, ⟨⟨x, fo, fc⟩, hok⟩, rfl, hbl, hd, hx, hfx⟩ := bkvs_get hes (w' := wr) (by rw [hw0]; exact hbw) k hlt
      simp only at hx hfx
      have hd' := HP.out
      rw [hd, List.filter_cons] at hd'
      simp only at hd'
      have HP2 : Aside (pre ++ (if p x = true then ⟨(x, fo, fc), hok⟩ :: (es.drop (k + 1)).filter (fun x => p x.1.1) else (es.drop (k + 1)).filter (fun x => p x.1.1)) = es.filter (fun x => p x.1.1)) := hd'
      clear hd hd' HP
      have hBcl : Bc < wr.heap.size := World.block_lt_of_cell? wr _ hc
      have HBs : Aside (n₀ ≤ wr.heap.size) := by have := hbw.size; show n₀ ≤ _; omega
      obtain ⟨x0, x1, x2, x3, x4, x5, x6, x7, x8, x9, x10⟩ := hx
      have hbl' : b < wr.heap.size := World.block_lt_of_cell? wr _ x0
      gi_wp2_with fail
      refine ⟨trivial, (callsIn_wide.2 (hp.out (x, fo, fc) _ (hbw.trans ((show Below wr.heap.size wr _ by go_grown).mono HBs.out)))).mono ?_⟩
      rintro e w1 ⟨rfl, hb1⟩
      have hB1 : Below wr.heap.size wr w1 := bvia (by go_grown) hb1
      have hJ1 := hJ pre wr w1 none hJs (Fo.grown_of_below hB1) (fun r e => by cases e)
      obtain ⟨z0, z1, z2, z3, z4, z5, z6, z7, z8, z9, z10⟩ := (BBox.new wr x fo fc).below hb1
      have hc1 := cellIn hB1 hc
      have hbw1 : Below n₀ w0 w1 := hbw.trans (hB1.mono HBs.out)
      clear hb1 hB1 hJs hbw hc x0 x1 x2 x3 x4 x5 x6 x7 x8 x9 x10
      cases hpx : p x
      · have HP3 : Aside (pre ++ (es.drop (k + 1)).filter (fun x => p x.1.1) = es.filter (fun x => p x.1.1)) := by
          have := HP2.out
          rw [hpx] at this
          show _ = _
          simpa using this
        clear HP2
        gi_wp2
        refine ⟨(fun f e => by cases e), ?_⟩
        gi_wp2
        go_roundw
        case rel => exact ⟨k + 1, pre, by omega, by simp, HP3.out, by omega, hJ1, hbw1, hc1⟩
        case measure => simp [intOf]; omega
      · have HP3 : Aside ((pre ++ [⟨(x, fo, fc), hok⟩]) ++ (es.drop (k + 1)).filter (fun x => p x.1.1) = es.filter (fun x => p x.1.1)) := by
          have := HP2.out
          rw [hpx] at this
          show _ = _
          simpa using this
        clear HP2
        obtain ⟨fn, tmps, assign, body, hy, hR⟩ := hY pre ⟨(x, fo, fc), hok⟩ w1 hJ1 (by omega)
        gi_wp2
        refine hR.mono ?_
        rintro e W3 (⟨rfl, hJ3, hk3⟩ | ⟨rfl, hJx3⟩)
        · gi_wp2
          go_roundw
          case rel => exact ⟨k + 1, pre ++ [⟨(x, fo, fc), hok⟩], by omega, by simp, HP3.out, by simp; omega, hJ3, hbw1.trans hk3.1, hk3.2 _ hc1⟩
          case measure => simp [intOf]; omega
        · gi_wp2
          refine bodyPost_ret (results_none rfl _ _ _) rfl ?_
          exact ⟨⟨_, rfl⟩, .inr ⟨pre ++ [⟨(x, fo, fc), hok⟩], ⟨_, HP3.out⟩, hJx3⟩⟩
    · obtain rfl : k = es.length := by omega
      have hP := HP.out
      rw [List.drop_of_length_le (Nat.le_refl _), List.filter_nil, List.append_nil] at hP
      gi_wp2
      go_end0
      exact ⟨⟨_, rfl⟩, .inl ⟨_, hP, hJs⟩⟩

abbrev V.seq (b c : Nat) : Value := .func (.func 194) #[] #[.pointer (some ⟨b, 0, none⟩), .pointer (some ⟨c, 0, none⟩)]
abbrev W.seq (w : World) (ao : Option Addr) (cap len F : Nat) (cs : Array Value) : World := (w.alloc (.cells #[.slice ao len cap] 30)).alloc (.cells #[.func (.func F) #[] cs] 120)

set_option maxHeartbeats 400000 in
theorem those_any (ao : Option Addr) (cap len F : Nat) (cs : Array Value) (w : World) :
    Calls Tryz.prog 151 #[.slice ao len cap, .func (.func F) #[] cs] w fun e w' => e = .returned (V.seq w.heap.size (w.heap.size + 1)) ∧ w' = W.seq w ao cap len F cs := by
  go_enter Tryz.func151, Tryz.ntmps151
  go_wp2
  go_ret
  exact ⟨rfl, rfl⟩

/-- 'those(l, counts)' hands back a value that gives those that count. -/
theorem those_stops (n : Nat) (hn : 1 ≤ n) (Bl Bc n₀ : Nat) (ao : Option Addr) (cap : Nat) (es : List {x : BkV // Ok x}) (F : Nat) (cs : Array Value) (p : Bkg → Bool) (w w0 : World)
    (hcf : ∀ (args : Array Value) (wx : World), (callFunc F args).run Tryz.prog wx = .ok (.enter F args) wx)
    (hp : Hid (∀ (x : BkV) (wx : World), Below n₀ w0 wx → Calls Tryz.prog F (#[V.bkv x] ++ cs) wx fun e w' => e = .returned (.bool (p x.1)) ∧ Below wx.heap.size wx w'))
    (hw0 : w0.heap.size = n₀) (hb0 : Below n₀ w0 w) (hes : BkVsAt w0 ao cap (es.map (·.1)))
    (hBl : w.cell? ⟨Bl, 0, none⟩ = some (.slice ao es.length cap)) (hBc : w.cell? ⟨Bc, 0, none⟩ = some (.func (.func F) #[] cs)) :
    SeqStopsK Fence.wide n Tryz.prog 194 #[.pointer (some ⟨Bl, 0, none⟩), .pointer (some ⟨Bc, 0, none⟩)] (fun x : {x : BkV // Ok x} => #[V.bkv x.1]) (Fo.Kept n₀ Bc) (fun ys => ys = es.filter (fun x => p x.1.1)) (fun pre => pre <+: es.filter (fun x => p x.1.1)) es.length w :=
  fun l J Jx W hW hJ hJx hY h0 =>
    those1_in n hn l Bl Bc n₀ ao cap es F cs p J Jx W w0 hcf hp hJ hJx hY hw0 (hb0.trans (hW.mono (by have := hb0.size; subst hw0; exact this))) hes (cellIn hW hBl) (cellIn hW hBc) h0
end

end Go.Proofs.YtlamhfbdeinkkaeGreat.Bk

/- The reference: CheckAll, SpansOf. -/
namespace Go.Proofs.YtlamhfbdeinkkaeGreat.Bk
open Go.RowKit
set_option linter.unusedSimpArgs false
set_option linter.unusedVariables false

theorem adds_snoc {n : Int} {acc pre : List (Int × Int)} {x : Int × Int} (h : P.addsE n acc pre = 0) : P.addsE n acc (pre ++ [x]) = Sp.P.addE (P.addsL n acc pre) n x.1 x.2 ∧ P.addsL n acc (pre ++ [x]) = Sp.P.addL (P.addsL n acc pre) n x.1 x.2 := by
  induction pre generalizing acc with
  | nil =>
    simp only [List.nil_append, P.addsE, P.addsL]
    split
    · rename_i he; exact ⟨he.symm, rfl⟩
    · rename_i he; exact ⟨rfl, by rw [Sp.P.addL, if_neg he]⟩
  | cons y r ih =>
    rw [P.addsE] at h
    rw [List.cons_append, P.addsE, P.addsL, P.addsL]
    split at h
    · rename_i he
      rw [if_pos he, if_pos he, if_pos he]
      exact ih h
    · contradiction
theorem adds_pre {n : Int} {acc pre t : List (Int × Int)} (h : ¬ P.addsE n acc pre = 0) : P.addsE n acc (pre ++ t) = P.addsE n acc pre := by
  induction pre generalizing acc with
  | nil => exact absurd rfl h
  | cons y r ih =>
    rw [P.addsE] at h ⊢
    rw [List.cons_append, P.addsE]
    split
    · rename_i he
      rw [if_pos he] at h
      exact ih h
    · rfl
theorem mem_of_drop {α : Type} {l : List α} {x : α} {k : Nat} (hd : l.drop k = x :: l.drop (k + 1)) : x ∈ l := by
  have : x ∈ l.drop k := by rw [hd]; simp
  exact List.mem_of_mem_drop this
/-- Spans of one's own, said of a block further ahead. -/
theorem own_ahead {w : World} {base base' : Nat} {v : Value} {l : List (Int × Int)} (h : Sp.Own w base v l) (hb : base' ≤ base) : Sp.Own w base' v l := by
  refine ⟨h.1, ?_⟩
  rcases h.2 with h2 | ⟨g, cap, cur, hv, hg, r⟩
  · exact Or.inl h2
  · exact Or.inr ⟨g, cap, cur, hv, Nat.le_trans hb hg, r⟩

abbrev P.addsB (n : Int) (r : List (Int × Int)) : Bool := decide (P.addsE n [] r = 0)

end Go.Proofs.YtlamhfbdeinkkaeGreat.Bk
