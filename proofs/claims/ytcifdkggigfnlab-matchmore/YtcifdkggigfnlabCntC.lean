/- Walks of hasLeg and its function literals, with, slices.Max, slices.Index. -/
import Derived.Test.YtcifdkggigfnlabCntB
import Derived.Laws.CopyOwn
import Derived.Deep.OwnRows
namespace Go.Proofs.Ytcifdkggigfnlab
open Go.RowKit
set_option linter.unusedSimpArgs false
set_option linter.unusedVariables false

theorem Try.sizeInt : (Try.prog.info? 3).map (fun i => i.size) = some 1 := by kernel_rfl
theorem run_sizeInt (wx : World) : (sizeOf 3).run Try.prog wx = .ok 1 wx := by
  have h := Try.sizeInt
  cases hi : Try.prog.info? 3 with
  | none => rw [hi] at h; cases h
  | some i =>
    rw [hi] at h
    simp only [Option.map_some, Option.some.injEq] at h
    simp [sizeOf, typeInfo, hi, h]

/-- where 'l[f:t]' begins -/
def midAt (ao : Option Addr) (cap f : Nat) : Option Addr := if cap = f then ao else ao.map fun x => x.add f
/-- 'l[f:t]' -/
theorem run_mid (ao : Option Addr) (n cap f t : Nat) (hf : f ≤ t) (ht : t ≤ cap) (wx : World) : (Instr.slice 22 (.slice ao n cap) (some (.int .i64 (f : Int))) (some (.int .i64 (t : Int))) none).run Try.prog wx = .ok (.slice (midAt ao cap f) (t - f) (cap - f)) wx := by
  simp [Instr.slice, run_underlying Try.underlying22, Instr.sliceBounds, Instr.sliceBound, asIntOf, run_sizeInt, hf, ht, midAt]

def P.seg (l : List Int) (f t : Nat) : List Int := (l.drop f).take (t - f)
theorem seg_len {l : List Int} {f t : Nat} (hf : f ≤ t) (ht : t ≤ l.length) : (P.seg l f t).length = t - f := by simp [P.seg]; omega
theorem seg_mem {l : List Int} {f t : Nat} {x : Int} (h : x ∈ P.seg l f t) : x ∈ l := List.mem_of_mem_drop (List.mem_of_mem_take h)

theorem IntsAt.mid {w : World} {ao : Option Addr} {cap : Nat} {l : List Int} (h : IntsAt w ao cap l) {f t : Nat} (hf : f ≤ t) (ht : t ≤ l.length) : IntsAt w (midAt ao cap f) (cap - f) (P.seg l f t) := by
  have hle := h.le
  have hmx := h.max
  refine ⟨by rw [seg_len hf ht]; omega, by omega, fun hn => ?_, fun h0 => ?_⟩
  · have : ao = none := by
      unfold midAt at hn
      split at hn
      · exact hn
      · simpa using hn
    have := h.nil this
    omega
  · rw [seg_len hf ht] at h0
    obtain ⟨b, off, rfl, hlt, hc⟩ := h.cells (by omega)
    refine ⟨b, off + f, ?_, hlt, fun i hi => ?_⟩
    · unfold midAt
      rw [if_neg (by omega)]
      simp only [Option.map_some]
      rw [Go.WideShapes.add_plain]
    · rw [seg_len hf ht] at hi
      obtain ⟨cs, h1, h2, h3⟩ := hc (f + i) (by omega)
      refine ⟨cs, ?_, h2, fun j u hj => ?_⟩
      · have e : (P.seg l f t)[i]'(by rw [seg_len hf ht]; omega) = l[f + i] := by simp [P.seg]
        rw [e]
        exact h1
      · have := h3 j u hj
        rw [show off + f + i * 1 + j = off + (f + i) * 1 + j by omega]
        exact this

set_option maxHeartbeats 1000000 in
theorem hasLeg_any (ao : Option Addr) (cap : Nat) (l : List Int) (f t : Nat) (F : Nat) (cs : Array Value) (p : Int → Bool) (w : World) (hl : IntsAt w ao cap l) (hf : f ≤ t) (ht : t ≤ l.length)
    (hcf : ∀ (args : Array Value) (wx : World), (callFunc F args).run Try.prog wx = .ok (.enter F args) wx)
    (hp : Hid (∀ (x : Int) (wx : World), x ∈ l → Below w.heap.size w wx → Calls Try.prog F (#[.int .i64 x] ++ cs) wx fun e w' => e = .returned (.bool (p x)) ∧ Below wx.heap.size wx w')) :
    Calls Try.prog 30 #[.slice ao l.length cap, .agg #[.int .i64 f, .int .i64 t], .func (.func F) #[] cs] w fun e w' => e = .returned (.bool ((P.seg l f t).any p)) ∧ Below w.heap.size w w' := by
  have hle := hl.le
  have hsl := run_mid ao l.length cap f t hf (by omega)
  go_enter Try.func30, Try.ntmps30
  go_wp2_with fail
  have hm := IntsAt.mid (SlAt.below RInt.mono hl (w' := w.alloc (.cells #[.int .i64 f, .int .i64 t] 24)) (by go_grown)) hf ht
  have hc := containsFunc_any (midAt ao cap f) (cap - f) (P.seg l f t) F cs p _ hm hcf (fun x wx hx hb => hp.out x wx (seg_mem hx) (bvia (by go_grown) hb))
  rw [seg_len hf ht] at hc
  refine hc.mono ?_
  rintro e w1 ⟨rfl, hb1⟩
  go_wp2
  go_ret
  exact ⟨rfl, bvia (by go_grown) hb1⟩

set_option maxHeartbeats 400000 in
theorem cntAdd1_any (x n : Int) (g : Nat) (w : World) (hx : 0 ≤ x ∧ x ≤ 60) (hn : 0 ≤ n ∧ n ≤ 60) (h0 : w.cell? ⟨g, 0, none⟩ = some (.int .i64 n)) :
    Calls Try.prog 31 #[.int .i64 x, .pointer (some ⟨g, 0, none⟩)] w fun e w' => e = .returned (.bool (decide (60 < x + n))) ∧ Below w.heap.size w w' := by
  go_enter Try.func31, Try.ntmps31
  go_wp2
  go_ret
  exact ⟨rfl, Below.refl _ _⟩

set_option maxHeartbeats 400000 in
theorem cntTake1_any (x n : Int) (g : Nat) (w : World) (h0 : w.cell? ⟨g, 0, none⟩ = some (.int .i64 n)) :
    Calls Try.prog 33 #[.int .i64 x, .pointer (some ⟨g, 0, none⟩)] w fun e w' => e = .returned (.bool (decide (x < n))) ∧ Below w.heap.size w w' := by
  go_enter Try.func33, Try.ntmps33
  go_wp2
  go_ret
  exact ⟨rfl, Below.refl _ _⟩

set_option maxHeartbeats 400000 in
theorem cntFits1_any (x n m : Int) (g h : Nat) (w : World) (hx : 0 ≤ x ∧ x ≤ 60) (hn : 0 ≤ n ∧ n ≤ 60) (h0 : w.cell? ⟨g, 0, none⟩ = some (.int .i64 n)) (h1 : w.cell? ⟨h, 0, none⟩ = some (.int .i64 m)) :
    Calls Try.prog 35 #[.int .i64 x, .pointer (some ⟨g, 0, none⟩), .pointer (some ⟨h, 0, none⟩)] w fun e w' => e = .returned (.bool (decide (m < x + n))) ∧ Below w.heap.size w w' := by
  go_enter Try.func35, Try.ntmps35
  go_wp2
  go_ret
  exact ⟨rfl, Below.refl _ _⟩

/-- n more on each leg from f to ahead of t. -/
def P.moreAt (l : List Int) (f t : Nat) (n : Int) (i : Nat) : Int := if f ≤ i ∧ i < t then l.getD i 0 + n else l.getD i 0
def P.moreL (l : List Int) (f t : Nat) (n : Int) : List Int := (List.range l.length).map (P.moreAt l f t n)

theorem row_of_made {w : World} {base b n : Nat} {t : TypeId} {z : Value} (h : w.ownsRow base t 1 (.slice (some ⟨b, 0, none⟩) n n) n (madeCells #[z] (n * 1)).toList) : w.rowIs b t n (fun _ => z) := by
  rcases h.2 with ⟨h1, _⟩ | ⟨g, cap, cur, h1, _, h3, _, _, h6, h7⟩
  · cases h1
  · simp only [Value.slice.injEq, Option.some.injEq, Addr.mk.injEq] at h1
    obtain ⟨⟨rfl, _⟩, _, rfl⟩ := h1
    refine ⟨cur, h3, by simpa using h6, fun i hi => ?_⟩
    have : (cur.toList.take (n * 1))[i]? = (madeCells #[z] (n * 1)).toList[i]? := by rw [h7]
    rw [List.getElem?_take, if_pos (by omega), Array.getElem?_toList, Array.getElem?_toList] at this
    rw [this]
    simp [madeCells, hi, Nat.mod_one]

/-- A row of numbers that the call made is a list of its own. -/
theorem own_of_row {w : World} {base g n : Nat} {l : List Int} (h : w.rowIs g 3 n (fun i => .int .i64 (l.getD i 0))) (hb : base ≤ g) (hn : l.length = n) (hm : n ≤ maxLen) : OwnI w base (.slice (some ⟨g, 0, none⟩) n n) l := by
  obtain ⟨c, h1, h2, h3⟩ := h
  refine ⟨by simp, .inr ⟨g, n, c, by rw [hn], hb, h1, by omega, hm, by omega, ?_⟩⟩
  apply List.ext_getElem?
  intro i
  rw [List.getElem?_take]
  by_cases hi : i < n
  · have := h3 i hi
    rw [if_pos (by omega), Array.getElem?_toList, this]
    have hil : i < l.length := by omega
    simp [hil]
  · rw [if_neg (by omega)]
    symm
    simp
    omega

theorem news_ints {w : World} {ao : Option Addr} {cap : Nat} {l : List Int} (h : IntsAt w ao cap l) (h0 : 0 < l.length) : ∃ ad, ao = some ad ∧ ∀ j x, (l.map (Value.int .i64))[j]? = some x → w.cell? (ad.add j) = some x := by
  obtain ⟨b, off, rfl, _, hc⟩ := h.cells h0
  refine ⟨_, rfl, fun j x hx => ?_⟩
  have hj := (List.getElem?_eq_some_iff.1 hx).1
  simp at hj
  obtain ⟨cs, h1, _, h3⟩ := hc j hj
  subst h1
  have := h3 0 _ rfl
  rw [Go.WideShapes.add_plain]
  simp [hj] at hx
  subst hx
  simpa using this

theorem row_copied {w : World} {g n : Nat} {l : List Int} {c : List Value} (h : w.heap[g]? = some (.cells (splice c 0 (l.map (Value.int .i64))).toArray 3 (0, 0))) (hc : c.length = n) (hn : l.length = n) : w.rowIs g 3 n (fun i => .int .i64 (l.getD i 0)) := by
  refine ⟨_, h, ?_, fun i hi => ?_⟩
  · have := length_splice c 0 (l.map (Value.int .i64)) (by simp; omega)
    simp only [List.size_toArray, this, hc]
  · have hil : i < l.length := by omega
    simp only [splice, List.take_zero, List.nil_append, List.getElem?_toArray]
    rw [List.getElem?_append_left (by simpa using hil)]
    simp [hil]

theorem cell_far {w : World} {b o b' o' : Nat} {v : Value} (h : b' ≠ b) : (w.setCell ⟨b', o', none⟩ v).cell? ⟨b, o, none⟩ = w.cell? ⟨b, o, none⟩ := by
  have := Go.Deep.blk_setCell_other w ⟨b', o', none⟩ v b (fun e => h e.symm)
  simp only [World.cell?, this]

theorem below_grown {w w' : World} (h : w.grownBy w' none) : Below w.heap.size w w' := ⟨h.os, h.tape, h.output, h.size, fun k hk => h.block k hk (by simp)⟩

set_option maxHeartbeats 1000000 in
theorem with_any (ao : Option Addr) (cap : Nat) (l : List Int) (f t : Nat) (n : Int) (w : World) (hl : IntsAt w ao cap l) (hf : f ≤ t) (ht : t ≤ l.length) (hlen : l.length ≤ 7) (hx : ∀ x ∈ l, 0 ≤ x ∧ x ≤ 60) (hn : -60 ≤ n ∧ n ≤ 60) :
    Calls Try.prog 32 #[.slice ao l.length cap, .agg #[.int .i64 f, .int .i64 t], .int .i64 n] w fun e w' => ∃ v', e = .returned v' ∧ OwnI w' w.heap.size v' (P.moreL l f t n) ∧ Below w.heap.size w w' := by
  have hle := hl.le
  have hmx := hl.max
  have HX : Aside (∀ i, 0 ≤ l.getD i 0 ∧ l.getD i 0 ≤ 60) := fun i => by
    rw [List.getD_eq_getElem?_getD]
    by_cases hi : i < l.length
    · rw [List.getElem?_eq_getElem hi]; exact hx _ (List.getElem_mem hi)
    · rw [List.getElem?_eq_none (by omega)]; simp
  clear hx
  unfold maxLen at hmx
  obtain ⟨i0, hi, hi0, hi1, hi2⟩ := info_parts Try.infoInt
  have HI : Aside (Try.prog.info? 3 = some i0 ∧ i0.zero = some (.int .i64 0) ∧ i0.size = 1 ∧ i0.bytes = 8) := ⟨hi, hi0, hi1, hi2⟩
  clear hi hi0 hi1 hi2
  have HL : Aside (IntsAt w ao cap l) := hl
  clear hl
  have HS : Aside ((Try.prog.info? 3).map (fun i => i.size) = some 1) := Try.sizeInt
  go_enter Try.func32, Try.ntmps32
  go_wp2_with (first
    | (at_make; refine wpList_make_full _ (by rfl) _ _ 22 (by rfl) w.heap.size 3 i0 _ 1 Try.underlying22 HI.out.1 HI.out.2.1 HI.out.2.2.1 _ _ _ _ l.length (by rfl) (by rfl) rfl rfl (by rw [HI.out.2.2.2]; omega) (by unfold maxLen; omega) (by simp) ?_; intro w1 hrow1 hgr1; have hb1 := below_grown hgr1; have hbx : Below w.heap.size w w1 := bvia (by go_grown) hb1; have hbox0 : w1.cell? ⟨w.heap.size, 0, none⟩ = some (.int .i64 f) := (cellIn hb1 (by simp)); have hbox1 : w1.cell? ⟨w.heap.size, 1, none⟩ = some (.int .i64 t) := (cellIn hb1 (by simp)); have HR1 : Aside (w1.rowIs (w.heap.size + 1) 3 l.length (fun _ => .int .i64 0)) := (by show World.rowIs _ _ _ _ _; have := row_of_made hrow1; simpa using this); clear hrow1 hgr1; obtain ⟨c, hc1, hc2, hc3⟩ := HR1.out; have HC : Aside (w1.heap[w.heap.size + 1]? = some (.cells c.toList.toArray 3 (0, 0))) := (by show _ = _; simpa using hc1); have HC2 : Aside (c.toList.length = l.length) := (by show _ = _; simpa using hc2); clear hc1 hc2 hc3)
    | (refine wpList_copy_splice rfl (.tmp 12) (.tmp 13) 22 22 rfl 3 Try.underlying22 HS.out _ _ _ _ _ _ (by rfl) (by rfl) (w.heap.size + 1) 0 c.toList 3 HC.out (l.map (Value.int .i64)) (by simp) (fun h0 => ⟨by simp, news_ints (SlAt.below RInt.mono HL.out hbx) (by simpa using h0)⟩) (by rw [HC2.out]; simp) (by simp; exact fun _ _ => rfl) (w.heap.size + 1) w1 (Below.refl _ _) (Nat.le_refl _) ?_; intro w2 HG2 hb2; have HR2 : Aside (w2.rowIs (w.heap.size + 1) 3 l.length (fun i => .int .i64 (l.getD i 0))) := row_copied HG2.out HC2.out rfl; have hx0 : w2.cell? ⟨w.heap.size, 0, none⟩ = some (.int .i64 f) := ((hb2.cell (p := ⟨w.heap.size, 0, none⟩) (by simp)).trans hbox0); have hx1 : w2.cell? ⟨w.heap.size, 1, none⟩ = some (.int .i64 t) := ((hb2.cell (p := ⟨w.heap.size, 1, none⟩) (by simp)).trans hbox1); clear HG2 hbox0 hbox1))
  have hB2 : Below w.heap.size w w2 := hbx.trans (hb2.mono (by omega))
  clear hbx hb2 HC HC2 HR1
  go_loopg [8] (t - f) (fun g i wr => ∃ (k : Nat), f ≤ k ∧ k ≤ t ∧ g = t - k ∧ i = .int .i64 k ∧ wr.rowIs (w.heap.size + 1) 3 l.length (fun i => .int .i64 (P.moreAt l f k n i)) ∧ wr.cell? ⟨w.heap.size, 0, none⟩ = some (.int .i64 f) ∧ wr.cell? ⟨w.heap.size, 1, none⟩ = some (.int .i64 t) ∧ Below w.heap.size w wr)
  case atStart => exact ⟨f, Nat.le_refl _, hf, rfl, rfl, HR2.out.congr (fun i _ => by rw [P.moreAt, if_neg (by omega)]), hx0, hx1, hB2⟩
  case round =>
    clear hx0 hx1 hB2 HR2
    obtain ⟨k, hfk, hkt, rfl, rfl, hR, hx0, hx1, hB⟩ := hrel
    have hRl := hR.lt
    have HR : Aside (wr.rowIs (w.heap.size + 1) 3 l.length (fun i => .int .i64 (P.moreAt l f k n i))) := hR
    by_cases hlt : k < t
    · have hkl : k < l.length := by omega
      have hce : wr.cell? ⟨w.heap.size + 1, k, none⟩ = some (.int .i64 (l.getD k 0)) := by rw [hR.cell hkl, P.moreAt, if_neg (by omega)]
      have hfr := hR.frozen k
      obtain ⟨y1, y2⟩ := HX.out k
      generalize hy : l.getD k 0 = y at hce y1 y2
      have HY : Aside (l.getD k 0 = y) := hy
      clear hy hR
      go_wp2
      go_roundg (t - (k + 1))
      case measure => omega
      case rel =>
        refine ⟨k + 1, by omega, by omega, rfl, by go_num, (HR.out.set k _).congr (fun i hi => ?_), (cell_far (by simp)).trans hx0, (cell_far (by simp)).trans hx1, hB.setCell (by simp) _⟩
        by_cases e : i = k
        · rw [if_pos e, P.moreAt, if_pos (by omega), e, HY.out]
        · rw [if_neg e, P.moreAt, P.moreAt]
          by_cases e2 : f ≤ i ∧ i < k
          · rw [if_pos e2, if_pos (by omega)]
          · rw [if_neg e2, if_neg (by omega)]
    · obtain rfl : k = t := by omega
      go_wp2
      go_ret
      refine ⟨_, rfl, ?_, hB⟩
      have e : l.length = (P.moreL l f k n).length := by simp [P.moreL]
      refine own_of_row (n := l.length) (HR.out.congr fun i hi => ?_) (by omega) e.symm (by unfold maxLen; omega)
      simp [P.moreL, hi]

set_option maxHeartbeats 1000000 in
theorem max_any (ao : Option Addr) (cap : Nat) (l : List Int) (w : World) (hl : IntsAt w ao cap l) (h0 : 0 < l.length) :
    Calls Try.prog 37 #[.slice ao l.length cap] w fun e w' => ∃ m, e = .returned (.int .i64 m) ∧ m ∈ l ∧ (∀ x ∈ l, x ≤ m) ∧ w = w' := by
  have hle := hl.le
  have hmx := hl.max
  unfold maxLen at hmx
  obtain ⟨b0, off0, x0, rfl, hbw0, hd0, hc00⟩ := hl.get (Below.refl _ _) 0 h0
  have e0 := getI h0 hd0
  have h00 := hc00
  simp only [Nat.add_zero] at h00
  clear hd0
  go_enter Try.func37, Try.ntmps37
  go_wp2
  go_loopg [3, 4] (l.length - 1) (fun g mv i wr => ∃ (k : Nat) (m : Int), 1 ≤ k ∧ k ≤ l.length ∧ g = l.length - k ∧ i = .int .i64 k ∧ mv = .int .i64 m ∧ m ∈ l ∧ (∀ j (h : j < l.length), j < k → l[j] ≤ m) ∧ wr = w)
  case atStart => exact ⟨1, x0, Nat.le_refl _, h0, rfl, rfl, rfl, by rw [← e0]; exact List.getElem_mem h0, fun j h hj => by obtain rfl : j = 0 := (by omega); rw [e0]; exact Int.le_refl _, rfl⟩
  case round =>
    obtain ⟨k, m, hk1, hk, rfl, rfl, rfl, hm, hP, rfl⟩ := hrel
    have HP : Aside (∀ j (h : j < l.length), j < k → l[j] ≤ m) := hP
    clear hP
    by_cases hlt : k < l.length
    · obtain ⟨b, off, x, e1, hbw, hd, hc0⟩ := hl.get (Below.refl _ _) k hlt
      simp only [Option.some.injEq, Addr.mk.injEq] at e1
      obtain ⟨rfl, rfl, _⟩ := e1
      have HE : Aside (l[k] = x) := getI hlt hd
      clear hd
      go_wp2
      · go_roundg (l.length - (k + 1))
        case measure => omega
        case rel =>
          refine ⟨k + 1, x, by omega, by omega, rfl, by go_num, rfl, by rw [← HE.out]; exact List.getElem_mem hlt, fun j h hj => ?_, rfl⟩
          by_cases ej : j < k
          · have := HP.out j h ej
            omega
          · obtain rfl : j = k := by omega
            have := HE.out
            omega
      · go_roundg (l.length - (k + 1))
        case measure => omega
        case rel =>
          refine ⟨k + 1, m, by omega, by omega, rfl, by go_num, rfl, hm, fun j h hj => ?_, rfl⟩
          by_cases ej : j < k
          · exact HP.out j h ej
          · obtain rfl : j = k := by omega
            have := HE.out
            omega
    · obtain rfl : k = l.length := by omega
      go_wp2
      go_ret
      refine ⟨m, rfl, hm, fun x hx => ?_, rfl⟩
      obtain ⟨j, hj, rfl⟩ := List.getElem_of_mem hx
      exact HP.out j hj hj

/-- Where a number that is there is first. -/
def P.idx (l : List Int) (m : Int) : Nat := l.findIdx (fun x => decide (x = m))
theorem idx_lt {l : List Int} {m : Int} (h : m ∈ l) : P.idx l m < l.length := List.findIdx_lt_length_of_exists ⟨m, h, by simp⟩
theorem idx_is {l : List Int} {m : Int} (h : m ∈ l) : l.getD (P.idx l m) 0 = m := by
  have h1 := idx_lt h
  have := List.findIdx_getElem (p := fun x => decide (x = m)) (w := h1)
  rw [List.getD_eq_getElem?_getD, List.getElem?_eq_getElem h1]
  exact of_decide_eq_true this
theorem idx_first {l : List Int} {m : Int} {j : Nat} (h : j < P.idx l m) : l.getD j 0 ≠ m := by
  have h1 : j < l.length := Nat.lt_of_lt_of_le h List.findIdx_le_length
  have := List.not_of_lt_findIdx (p := fun x => decide (x = m)) h
  rw [List.getD_eq_getElem?_getD, List.getElem?_eq_getElem h1]
  simpa using this
theorem idx_eq {l : List Int} {m : Int} {k : Nat} (hk : k < l.length) (h1 : l.getD k 0 = m) (h2 : ∀ j, j < k → l.getD j 0 ≠ m) : P.idx l m = k := by
  unfold P.idx
  rw [List.findIdx_eq hk]
  rw [List.getD_eq_getElem?_getD, List.getElem?_eq_getElem hk] at h1
  refine ⟨by simpa using h1, fun j hj => ?_⟩
  have h3 := h2 j hj
  rw [List.getD_eq_getElem?_getD, List.getElem?_eq_getElem (by omega)] at h3
  simpa using h3

set_option maxHeartbeats 1000000 in
theorem index_any (ao : Option Addr) (cap : Nat) (l : List Int) (m : Int) (w : World) (hl : IntsAt w ao cap l) (h0 : m ∈ l) :
    Calls Try.prog 38 #[.slice ao l.length cap, .int .i64 m] w fun e w' => e = .returned (.int .i64 (P.idx l m)) ∧ w' = w := by
  have hle := hl.le
  have hmx := hl.max
  unfold maxLen at hmx
  go_enter Try.func38, Try.ntmps38
  go_wp2
  go_loopg [8] l.length (fun g i wr => ∃ (k : Nat), k ≤ l.length ∧ g = l.length - k ∧ i = .int .i64 k ∧ (∀ j, j < k → l.getD j 0 ≠ m) ∧ wr = w)
  case atStart => exact ⟨0, Nat.zero_le _, rfl, rfl, fun j h => by omega, rfl⟩
  case round =>
    obtain ⟨k, hk, rfl, rfl, hP, rfl⟩ := hrel
    have HP : Aside (∀ j, j < k → l.getD j 0 ≠ m) := hP
    clear hP
    by_cases hlt : k < l.length
    · obtain ⟨b, off, x, rfl, hbw, hd, hc0⟩ := hl.get (Below.refl _ _) k hlt
      have HE : Aside (l.getD k 0 = x) := by show _ = _; rw [List.getD_eq_getElem?_getD, List.getElem?_eq_getElem hlt]; exact getI hlt hd
      clear hd
      by_cases e : m = x
      · have HI : Aside (P.idx l m = k) := idx_eq hlt (by rw [HE.out, e]) HP.out
        have e' : (m == x) = true := by simpa using e
        go_wp2
        go_ret
        exact ⟨ret_int (by rw [HI.out]), rfl⟩
      · have e' : (m == x) = false := by simpa using e
        go_wp2
        go_roundg (l.length - (k + 1))
        case measure => omega
        case rel => exact ⟨k + 1, by omega, rfl, by go_num, fun j hj => by rcases Nat.lt_or_ge j k with h | h; exact HP.out j h; obtain rfl : j = k := (by omega); rw [HE.out]; exact fun h => e h.symm, rfl⟩
    · exfalso
      obtain ⟨j, hj, rfl⟩ := List.getElem_of_mem h0
      exact HP.out j (by omega) (by simp [hj])

end Go.Proofs.Ytcifdkggigfnlab
