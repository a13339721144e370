/- Walks of slices.ContainsFunc over the parts, code.Check, Encode. -/
import Derived.Test.YtfiaeokdcbmedafDoorCdE
import Derived.Deep.CutRange
import Derived.Deep.RegionWith
namespace Go.Proofs.YtfiaeokdcbmedafDoor
open Go.RowKit
set_option linter.unusedSimpArgs false
set_option linter.unusedVariables false

set_option maxHeartbeats 1000000 in
theorem indexOff_any (ao : Option Addr) (cap : Nat) (l : List Nat) (n : Nat → Int) (N : Nat) (w : World) (hl : NatsAt w ao cap l) (h9 : Hid (∀ p ∈ l, p < 9)) (hP : PartsAt w) (hc : Hid (∀ j, j < 9 → w.cell? ⟨N, j, none⟩ = some (.int .i64 (n j)))) :
    Calls Tryd.prog 30 #[.slice ao l.length cap, .func (.func 24) #[] #[.pointer (some ⟨N, 0, none⟩)]] w fun e w' => ∃ q : Int, e = .returned (.int .i64 q) ∧ decide (0 ≤ q) = l.any (P.off n) ∧ Below w.heap.size w w' := by
  have hle := hl.le
  have hmx := hl.max
  unfold maxLen at hmx
  go_enter Tryd.func30, Tryd.ntmps30
  go_wp2
  go_loopg [8] l.length (fun g i wr => ∃ (k : Nat), k ≤ l.length ∧ g = l.length - k ∧ i = .int .i64 k ∧ (l.drop k).any (P.off n) = l.any (P.off n) ∧ Below w.heap.size w wr)
  case atStart => exact ⟨0, Nat.zero_le _, rfl, rfl, rfl, Below.refl _ _⟩
  case round =>
    obtain ⟨k, hk, rfl, rfl, hP2, hB⟩ := hrel
    have HP : Aside ((l.drop k).any (P.off n) = l.any (P.off n)) := hP2
    clear hP2
    by_cases hlt : k < l.length
    · obtain ⟨b, off, x, rfl, hbw, hd, hx, hc0⟩ := hl.get hB k hlt
      have HD : Aside (l.drop k = x :: l.drop (k + 1)) := hd
      have HX : Aside (l[k] = x) := hx
      have hx9 : x < 9 := h9.out x (by rw [← hx]; exact List.getElem_mem hlt)
      clear hd hx
      have hc2 := fun j hj => cellIn hB (hc.out j hj)
      cases hpf : P.off n x
      · go_wp2_with fail
        refine (check1_any n x N _ hx9 (hP.below hB) hc2).mono ?_
        rintro e w1 ⟨rfl, hb1⟩
        rw [hpf]
        clear hc2
        go_wp2
        go_roundg (l.length - (k + 1))
        case measure => omega
        case rel => exact ⟨k + 1, by omega, rfl, by go_num, anyN_on HP.out HD.out hpf, bvia hB hb1⟩
      · go_wp2_with fail
        refine (check1_any n x N _ hx9 (hP.below hB) hc2).mono ?_
        rintro e w1 ⟨rfl, hb1⟩
        rw [hpf]
        clear hc2
        go_wp2
        go_ret
        exact ⟨_, rfl, by rw [anyN_hit hlt HX.out hpf, decide_eq_true_iff]; omega, bvia hB hb1⟩
    · obtain rfl : k = l.length := by omega
      go_wp2
      go_ret
      exact ⟨_, rfl, by rw [anyN_none HP.out]; rfl, hB⟩

set_option maxHeartbeats 1000000 in
theorem containsOff_any (ao : Option Addr) (cap : Nat) (l : List Nat) (n : Nat → Int) (N : Nat) (w : World) (hl : NatsAt w ao cap l) (h9 : Hid (∀ p ∈ l, p < 9)) (hP : PartsAt w) (hc : Hid (∀ j, j < 9 → w.cell? ⟨N, j, none⟩ = some (.int .i64 (n j)))) :
    Calls Tryd.prog 23 #[.slice ao l.length cap, .func (.func 24) #[] #[.pointer (some ⟨N, 0, none⟩)]] w fun e w' => e = .returned (.bool (l.any (P.off n))) ∧ Below w.heap.size w w' := by
  go_enter Tryd.func23, Tryd.ntmps23
  go_wp2_with fail
  refine (indexOff_any ao cap l n N w hl h9 hP hc).mono ?_
  rintro e w1 ⟨q, rfl, hn, hb1⟩
  have HN : Aside (decide (0 ≤ q) = l.any (P.off n)) := hn
  clear hn
  go_wp2
  go_ret
  exact ⟨ret_bool HN.out, hb1⟩

/-- What is wrong with a request. -/
def P.extra (n : Nat → Int) (ps : List Nat) (k : Nat) : Bool := (List.range k).any (fun p => n p != 0 && !ps.any (fun x => decide (x = p)))
def P.askE (a : Ask) : Int :=
  if P.btw a.kind 1 8 = false then 7 else if P.btw a.number 1 65535 = false then 3
  else if P.extra (P.num a) (P.names a.kind) 9 = true then 1 else if (P.names a.kind).any (P.off (P.num a)) = true then 3 else 0

theorem extra_on {n : Nat → Int} {ps : List Nat} {k : Nat} : P.extra n ps (k + 1) = (P.extra n ps k || (n k != 0 && !ps.any (fun x => decide (x = k)))) := by
  simp [P.extra, List.range_succ]

theorem extra_more {n : Nat → Int} {ps : List Nat} {k m : Nat} (h : P.extra n ps k = true) (hk : k ≤ m) : P.extra n ps m = true := by
  unfold P.extra at *
  rw [List.any_eq_true] at *
  obtain ⟨x, hx, h⟩ := h
  exact ⟨x, by simp at *; omega, h⟩

abbrev C.nums (n : Nat → Int) : Array Value := #[.int .i64 (n 0), .int .i64 (n 1), .int .i64 (n 2), .int .i64 (n 3), .int .i64 (n 4), .int .i64 (n 5), .int .i64 (n 6), .int .i64 (n 7), .int .i64 (n 8)]
theorem RowIs.num {w : World} {N : Nat} {n : Nat → Int} (h : RowIs w N (C.nums n)) (j : Nat) (hj : j < 9) : w.cell? ⟨N, j, none⟩ = some (.int .i64 (n j)) := by
  obtain ⟨t, h⟩ := h
  rw [cell_of_row _ N j _ _ (0, 0) h]
  match j, hj with
  | 0, _ => rfl
  | 1, _ => rfl
  | 2, _ => rfl
  | 3, _ => rfl
  | 4, _ => rfl
  | 5, _ => rfl
  | 6, _ => rfl
  | 7, _ => rfl
  | 8, _ => rfl
theorem RowIs.abox {w : World} {g : Nat} {a : Ask} (h : RowIs w g (C.ask a)) : w.cell? ⟨g, 0, none⟩ = some (.int .i64 a.number) ∧ w.cell? ⟨g, 1, none⟩ = some (.int .i64 a.kind) ∧ w.cell? ⟨g, 2, none⟩ = some (.int .i64 a.id) ∧ w.cell? ⟨g, 3, none⟩ = some (.int .i64 a.guests) ∧ w.cell? ⟨g, 4, none⟩ = some (.bool a.level) ∧ w.cell? ⟨g, 5, none⟩ = some (.int .i64 a.cabin) ∧ w.cell? ⟨g, 6, none⟩ = some (.int .i64 a.category) ∧ w.cell? ⟨g, 7, none⟩ = some (.int .i64 a.f) ∧ w.cell? ⟨g, 8, none⟩ = some (.int .i64 a.t) ∧ w.cell? ⟨g, 9, none⟩ = some (.int .i64 a.til) ∧ w.cell? ⟨g, 10, none⟩ = some (.int .i64 a.amount) :=
  ⟨h.cell 0, h.cell 1, h.cell 2, h.cell 3, h.cell 4, h.cell 5, h.cell 6, h.cell 7, h.cell 8, h.cell 9, h.cell 10⟩
theorem setCells_row (w : World) (g o : Nat) (t : TypeId) (vs : List Value) (cur : Array Value) (hg : w.heap[g]? = some (.cells cur t (0, 0))) (hl : o + vs.length ≤ cur.size) (h1 : ∀ v ∈ vs, v.oneCell' = true) :
    w.setCells g o vs = w.setRow g (cur.toList.take o ++ vs ++ cur.toList.drop (o + vs.length)).toArray := by
  have hc : ∀ j, j < vs.length → (w.cell? ⟨g, o + 0 + j, none⟩).isSome = true := fun j hj => by
    rw [cell_of_row w g (o + 0 + j) cur t (0, 0) hg, Array.getElem?_eq_getElem (by omega)]
    rfl
  have hf : ∀ j, j < vs.length → w.frozen? ⟨g, o + 0 + j, none⟩ = false := fun j hj => by simp [World.frozen?, hg]
  have e1 := run_storeCells_cells (P := Tryd.prog) g o vs 0 w hc hf h1
  have e2 := run_storeCells_at (P := Tryd.prog) g o t vs 0 cur w hg (by omega) h1
  rw [e1] at e2
  simp only [Nat.add_zero] at e2
  injection e2

abbrev C.zn : Array Value := #[.int .i64 0, .int .i64 0, .int .i64 0, .int .i64 0, .int .i64 0, .int .i64 0, .int .i64 0, .int .i64 0, .int .i64 0]
abbrev W.putN (w : World) (g : Nat) (n : Nat → Int) : World := ((((((((w.setCell ⟨g, 0, none⟩ (.int .i64 (n 0))).setCell ⟨g, 1, none⟩ (.int .i64 (n 1))).setCell ⟨g, 2, none⟩ (.int .i64 (n 2))).setCell ⟨g, 3, none⟩ (.int .i64 (n 3))).setCell ⟨g, 4, none⟩ (.int .i64 (n 4))).setCell ⟨g, 5, none⟩ (.int .i64 (n 5))).setCell ⟨g, 6, none⟩ (.int .i64 (n 6))).setCell ⟨g, 7, none⟩ (.int .i64 (n 7))).setCell ⟨g, 8, none⟩ (.int .i64 (n 8))
theorem putN_eq (w : World) (g : Nat) (n : Nat → Int) : W.putN w g n = w.setCells g 0 (C.nums n).toList := rfl
theorem putN_row {U : World} {g : Nat} {old : Array Value} (n : Nat → Int) (h : RowIs U g old) (ho : old.size = 9) : RowIs (W.putN U g n) g (C.nums n) ∧ U.grownBy (W.putN U g n) (some g) := by
  obtain ⟨t, h⟩ := h
  have hone : ∀ v ∈ (C.nums n).toList, v.oneCell' = true := by simp [Value.oneCell']
  have e := setCells_row U g 0 t (C.nums n).toList old h (by rw [ho]; exact Nat.le_refl _) hone
  have e2 : (old.toList.take 0 ++ (C.nums n).toList ++ old.toList.drop (0 + (C.nums n).toList.length)).toArray = C.nums n := by
    have : old.toList.drop (0 + (C.nums n).toList.length) = [] := List.drop_of_length_le (by rw [Array.length_toList, ho]; exact Nat.le_refl _)
    rw [this, List.append_nil, List.take_zero, List.nil_append]
  rw [e2] at e
  rw [putN_eq, e]
  exact ⟨⟨t, setRow_heap U g old _ t (0, 0) h⟩, rfl, rfl, rfl, by simp, fun i hi hne => setRow_other U g i _ (fun e => hne (by rw [e]))⟩
theorem NatsB.row {w w' : World} {ao : Option Addr} {l : List Nat} {N : Nat} {old : Array Value} (h : NatsB w ao l) (hl : l.length ≤ 7) (hr : RowIs w N old) (ho : old.size = 9) (hg : w.grownBy w' (some N)) : NatsB w' ao l := by
  rcases h with h | ⟨g, rfl, hgb⟩
  · exact .inl h
  · refine .inr ⟨g, rfl, ?_⟩
    rw [hg.block g (Array.getElem?_eq_some_iff.1 hgb).1 (fun e => ?_)]
    · exact hgb
    · cases e
      obtain ⟨t, hr⟩ := hr
      rw [hgb] at hr
      simp only [Option.some.injEq, Obj.cells.injEq] at hr
      have := congrArg Array.size hr.1
      rw [ho] at this
      simp at this
      omega
theorem asd {p : Prop} (h : p) : Aside p := h
theorem alB (w : World) (o : Obj) : Below w.heap.size w (w.alloc o) := by go_grown
abbrev W.ask (w : World) (a : Ask) : World := w.alloc (.cells (C.ask a) 25)

set_option maxRecDepth 4000 in
set_option maxHeartbeats 4000000 in
theorem codeCheck_any (a : Ask) (w : World) (hp : PartsAt w) : Calls Tryd.prog 11 #[V.ask a] w fun e w' => e = .returned (.int .i64 (P.askE a)) ∧ Below w.heap.size w w' := by
  cases h1 : P.btw a.kind 1 8
  · have HE : Aside (P.askE a = 7) := by show _ = _; rw [P.askE, if_pos h1]
    go_enter Tryd.func11, Tryd.ntmps11
    go_wp2_with (go_at_call 14; refine (isKind_any _ _).mono ?_; rintro e w1 ⟨rfl, rfl⟩; rw [h1])
    go_ret
    exact ⟨ret_int HE.out.symm, by go_grown⟩
  by_cases h2 : a.number < 1
  · have HE : Aside (P.askE a = 3) := by show _ = _; rw [P.askE, if_neg (by rw [h1]; simp), if_pos (by simp [P.btw]; omega)]
    go_enter Tryd.func11, Tryd.ntmps11
    go_wp2_with (go_at_call 14; refine (isKind_any _ _).mono ?_; rintro e w1 ⟨rfl, rfl⟩; rw [h1])
    go_ret
    exact ⟨ret_int HE.out.symm, by go_grown⟩
  by_cases h3 : 65535 < a.number
  · have HE : Aside (P.askE a = 3) := by show _ = _; rw [P.askE, if_neg (by rw [h1]; simp), if_pos (by simp [P.btw]; omega)]
    go_enter Tryd.func11, Tryd.ntmps11
    go_wp2_with (go_at_call 14; refine (isKind_any _ _).mono ?_; rintro e w1 ⟨rfl, rfl⟩; rw [h1])
    go_ret
    exact ⟨ret_int HE.out.symm, by go_grown⟩
  have HE : Aside (P.askE a = if P.extra (P.num a) (P.names a.kind) 9 = true then 1 else if (P.names a.kind).any (P.off (P.num a)) = true then 3 else 0) := by show _ = _; rw [P.askE, if_neg (by rw [h1]; simp), if_neg (by simp [P.btw]; omega)]
  have HX0 : Aside (RowIs (W.ask w a) w.heap.size (C.ask a)) := RowIs.new w _ _
  have HB0 : Aside (Below w.heap.size w (W.ask w a)) := by show Below _ _ _; go_grown
  go_enter Tryd.func11, Tryd.ntmps11
  go_wp2_with (go_at_call 14; refine (isKind_any _ _).mono ?_; rintro e w1 ⟨rfl, rfl⟩; rw [h1])
  change Code.wp Tryd.prog _ _ _ (W.ask w a)
  generalize W.ask w a = wB at HX0 HB0 ⊢
  obtain ⟨k0, k1, k2, k3, k4, k5, k6, k7, k8, k9, k10⟩ := HX0.out.abox
  have hN0 : w.heap.size < wB.heap.size := HX0.out.lt
  go_cut [3, 4] from 18 to 22 (fun s3 s4 wx => ∃ (N : Nat) (ao : Option Addr), s3 = .pointer (some ⟨N, 0, none⟩) ∧ s4 = .slice ao (P.names a.kind).length (P.names a.kind).length ∧ Aside (RowIs wx N (C.nums (P.num a))) ∧ Aside (NatsB wx ao (P.names a.kind)) ∧ Aside (Below wB.heap.size wB wx))
  case first =>
    go_region_with
      (first
        | (go_at_call 20; refine (spread_any a _).mono ?_; rintro e w3 ⟨rfl, hb3⟩; have bb3 : Below wB.heap.size wB w3 := (by first | with_reducible exact hb3 | with_reducible exact bvia (drB _) hb3 | with_reducible exact bvia (bvia (alB _ _) (drB _)) hb3 | with_reducible exact bvia bb4 hb3 | with_reducible exact bvia bb4 (bvia (alB _ _) hb3)); obtain ⟨y0, y1, y2, y3, y4, y5, y6, y7, y8, y9, y10⟩ := RowIs.abox (HX0.out.below bb3); have hl3 : w.heap.size < w3.heap.size := (HX0.out.below bb3).lt;
            (first | (have hN := (by with_reducible exact hN.below hb3)) | (have hN := (by with_reducible exact hN.below (bvia (alB _ _) hb3))) | skip);
            (first | (have hT := (by with_reducible exact hT.below hb3); have tf0 := hT.free 0; have tc0 := hT.cell 0; have tf1 := hT.free 1; have tc1 := hT.cell 1; have tf2 := hT.free 2; have tc2 := hT.cell 2; have tf3 := hT.free 3; have tc3 := hT.cell 3; have tf4 := hT.free 4; have tc4 := hT.cell 4; have tf5 := hT.free 5; have tc5 := hT.cell 5; have tf6 := hT.free 6; have tc6 := hT.cell 6; have tf7 := hT.free 7; have tc7 := hT.cell 7; have tf8 := hT.free 8; have tc8 := hT.cell 8) | (have hT := (by with_reducible exact (RowIs.new wB C.zn 45).below (bvia (drB _) hb3)); have tf0 := hT.free 0; have tc0 := hT.cell 0; have tf1 := hT.free 1; have tc1 := hT.cell 1; have tf2 := hT.free 2; have tc2 := hT.cell 2; have tf3 := hT.free 3; have tc3 := hT.cell 3; have tf4 := hT.free 4; have tc4 := hT.cell 4; have tf5 := hT.free 5; have tc5 := hT.cell 5; have tf6 := hT.free 6; have tc6 := hT.cell 6; have tf7 := hT.free 7; have tc7 := hT.cell 7; have tf8 := hT.free 8; have tc8 := hT.cell 8) | (have hT := (by with_reducible exact (RowIs.new w4 C.zn 45).below hb3); have tf0 := hT.free 0; have tc0 := hT.cell 0; have tf1 := hT.free 1; have tc1 := hT.cell 1; have tf2 := hT.free 2; have tc2 := hT.cell 2; have tf3 := hT.free 3; have tc3 := hT.cell 3; have tf4 := hT.free 4; have tc4 := hT.cell 4; have tf5 := hT.free 5; have tc5 := hT.cell 5; have tf6 := hT.free 6; have tc6 := hT.cell 6; have tf7 := hT.free 7; have tc7 := hT.cell 7; have tf8 := hT.free 8; have tc8 := hT.cell 8) | skip))
        | (go_at_call 21; refine (named_any a.kind _).mono ?_; rintro e w4 ⟨ao, rfl, hN, hb4, _⟩; have bb4 : Below wB.heap.size wB w4 := (by first | with_reducible exact hb4 | with_reducible exact bvia (drB _) hb4 | with_reducible exact bvia (bvia (alB _ _) (drB _)) hb4 | with_reducible exact bvia bb3 hb4 | with_reducible exact bvia bb3 (bvia (alB _ _) hb4) | with_reducible exact bvia (below_gr bb3 bb3.size (putN_row (P.num a) hT rfl).2 (Nat.le_refl _)) hb4); obtain ⟨z0, z1, z2, z3, z4, z5, z6, z7, z8, z9, z10⟩ := RowIs.abox (HX0.out.below bb4); have hl4 : w.heap.size < w4.heap.size := (HX0.out.below bb4).lt;
            (first | (have hR := (RowIs.new w3 (C.nums (P.num a)) 45).below hb4) | (have hR := (by with_reducible exact (putN_row (P.num a) hT rfl).1.below hb4)) | skip);
            (first | (have hT := (by with_reducible exact hT.below hb4); have tf0 := hT.free 0; have tc0 := hT.cell 0; have tf1 := hT.free 1; have tc1 := hT.cell 1; have tf2 := hT.free 2; have tc2 := hT.cell 2; have tf3 := hT.free 3; have tc3 := hT.cell 3; have tf4 := hT.free 4; have tc4 := hT.cell 4; have tf5 := hT.free 5; have tc5 := hT.cell 5; have tf6 := hT.free 6; have tc6 := hT.cell 6; have tf7 := hT.free 7; have tc7 := hT.cell 7; have tf8 := hT.free 8; have tc8 := hT.cell 8) | (have hT := (by with_reducible exact (RowIs.new wB C.zn 45).below (bvia (drB _) hb4)); have tf0 := hT.free 0; have tc0 := hT.cell 0; have tf1 := hT.free 1; have tc1 := hT.cell 1; have tf2 := hT.free 2; have tc2 := hT.cell 2; have tf3 := hT.free 3; have tc3 := hT.cell 3; have tf4 := hT.free 4; have tc4 := hT.cell 4; have tf5 := hT.free 5; have tc5 := hT.cell 5; have tf6 := hT.free 6; have tc6 := hT.cell 6; have tf7 := hT.free 7; have tc7 := hT.cell 7; have tf8 := hT.free 8; have tc8 := hT.cell 8) | (have hT := (by with_reducible exact (RowIs.new w3 C.zn 45).below hb4); have tf0 := hT.free 0; have tc0 := hT.cell 0; have tf1 := hT.free 1; have tc1 := hT.cell 1; have tf2 := hT.free 2; have tc2 := hT.cell 2; have tf3 := hT.free 3; have tc3 := hT.cell 3; have tf4 := hT.free 4; have tc4 := hT.cell 4; have tf5 := hT.free 5; have tc5 := hT.cell 5; have tf6 := hT.free 6; have tc6 := hT.cell 6; have tf7 := hT.free 7; have tc7 := hT.cell 7; have tf8 := hT.free 8; have tc8 := hT.cell 8) | skip)))
    all_goals
      go_wp2_with fail
      go_meet
      first
        | with_reducible exact ⟨_, ao, rfl, rfl, asd (hR), asd (hN), asd (bb4)⟩
        | with_reducible exact ⟨_, ao, rfl, rfl, asd (RowIs.new w4 (C.nums (P.num a)) 45), asd (hN.below (alB _ _)), asd (bvia bb4 (alB _ _))⟩
        | with_reducible exact ⟨_, ao, rfl, rfl, asd (RowIs.new w3 (C.nums (P.num a)) 45), asd (hN.below (alB _ _)), asd (bvia bb3 (alB _ _))⟩
        | with_reducible exact ⟨_, ao, rfl, rfl, asd ((putN_row (U := w4) (P.num a) hT rfl).1), asd (hN.row (names_len _) hT rfl (putN_row (P.num a) hT rfl).2), asd (below_gr bb4 bb4.size (putN_row (P.num a) hT rfl).2 (Nat.le_refl _))⟩
        | with_reducible exact ⟨_, ao, rfl, rfl, asd ((putN_row (U := w4) (P.num a) hT rfl).1), asd (hN.row (names_len _) hT rfl (putN_row (P.num a) hT rfl).2), asd (below_gr bb4 bb4.size (putN_row (P.num a) hT rfl).2 (bb3.size))⟩
        | with_reducible exact ⟨_, ao, rfl, rfl, asd ((putN_row (U := w3) (P.num a) hT rfl).1), asd (hN.row (names_len _) hT rfl (putN_row (P.num a) hT rfl).2), asd (below_gr bb3 bb3.size (putN_row (P.num a) hT rfl).2 (Nat.le_refl _))⟩
        | with_reducible exact ⟨_, ao, rfl, rfl, asd ((putN_row (U := w3) (P.num a) hT rfl).1), asd (hN.row (names_len _) hT rfl (putN_row (P.num a) hT rfl).2), asd (below_gr bb3 bb3.size (putN_row (P.num a) hT rfl).2 (bb4.size))⟩
  case rest =>
  obtain ⟨N, ao, rfl, rfl, HR, HN, HB⟩ := hcut
  have hP : PartsAt wc := hp.below (bvia HB0.out HB.out)
  have HPc : Aside (PartsAt wc) := hP
  have hBc : Below w.heap.size w wc := bvia HB0.out HB.out
  have hnl := names_len a.kind
  have HIN : Hid (∀ p ∈ P.names a.kind, p < 9) := fun p hp => names_lt hp
  clear hP HB HB0 HX0 k0 k1 k2 k3 k4 k5 k6 k7 k8 k9 k10 hN0
  generalize P.names a.kind = ps at *
  go_wp2
  go_loopg [23] 9 (fun g i wr => ∃ (k : Nat), k ≤ 9 ∧ g = 9 - k ∧ i = .int .i64 k ∧ P.extra (P.num a) ps k = false ∧ wr = wc)
  case atStart => exact ⟨0, by omega, rfl, rfl, rfl, rfl⟩
  case round =>
    obtain ⟨k, hk, rfl, rfl, hE2, rfl⟩ := hrel
    have HX2 : Aside (P.extra (P.num a) ps k = false) := hE2
    clear hE2
    by_cases hlt : k < 9
    · have c0 := HR.out.num k hlt
      have x1 : (k : Int) < 9 := by omega
      cases hz : (P.num a k != 0)
      · have HX3 : Aside (P.extra (P.num a) ps (k + 1) = false) := by show _ = _; rw [extra_on, HX2.out, hz]; rfl
        go_wp2
        go_roundg (9 - (k + 1))
        case measure => omega
        case rel => exact ⟨k + 1, by omega, rfl, by go_num, HX3.out, rfl⟩
      · cases hany : ps.any (fun x => decide (x = k))
        · have HX3 : Aside (P.extra (P.num a) ps (k + 1) = true) := by show _ = _; rw [extra_on, hz, hany]; simp
          have HE9 : Aside (P.extra (P.num a) ps 9 = true) := extra_more HX3.out (by omega)
          go_wp2_with (go_at_call 22; refine (containsN_any ao _ ps k _ (HN.out.at (by simp only [maxLen]; omega))).mono ?_; rintro e w5 ⟨rfl, rfl⟩; rw [hany])
          go_ret
          exact ⟨ret_int (by rw [HE.out, if_pos HE9.out]), hBc⟩
        · have HX3 : Aside (P.extra (P.num a) ps (k + 1) = false) := by show _ = _; rw [extra_on, HX2.out, hz, hany]; rfl
          go_wp2_with (go_at_call 22; refine (containsN_any ao _ ps k _ (HN.out.at (by simp only [maxLen]; omega))).mono ?_; rintro e w5 ⟨rfl, rfl⟩; rw [hany])
          go_roundg (9 - (k + 1))
          case measure => omega
          case rel => exact ⟨k + 1, by omega, rfl, by go_num, HX3.out, rfl⟩
    · obtain rfl : k = 9 := by omega
      have HE2 : Aside (P.askE a = if ps.any (P.off (P.num a)) = true then 3 else 0) := by show _ = _; rw [HE.out, if_neg (by rw [HX2.out]; simp)]
      cases hany : ps.any (P.off (P.num a))
      · go_wp2_with fail
        refine (containsOff_any ao _ ps (P.num a) N _ (HN.out.at (by simp only [maxLen]; omega)) HIN HPc.out (fun j hj => HR.out.num j hj)).mono ?_
        rintro e w6 ⟨rfl, hb6⟩
        rw [hany]
        go_wp2
        go_ret
        exact ⟨ret_int (by rw [HE2.out, hany]; rfl), bvia hBc hb6⟩
      · go_wp2_with fail
        refine (containsOff_any ao _ ps (P.num a) N _ (HN.out.at (by simp only [maxLen]; omega)) HIN HPc.out (fun j hj => HR.out.num j hj)).mono ?_
        rintro e w6 ⟨rfl, hb6⟩
        rw [hany]
        go_wp2
        go_ret
        exact ⟨ret_int (by rw [HE2.out, hany]; rfl), bvia hBc hb6⟩

end Go.Proofs.YtfiaeokdcbmedafDoor
