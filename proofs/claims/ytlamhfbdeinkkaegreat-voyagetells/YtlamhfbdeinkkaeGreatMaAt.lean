import Derived.Test.YtlamhfbdeinkkaeGreatBaAt
import Derived.Deep.LoopGhost
import Derived.WalkSmall
import Derived.Deep.Onto
import Derived.Laws.CopyOwn
import Derived.Deep.OwnRows
set_option maxRecDepth 10000
/- Lists of numbers that a call makes; walks of span.Check, CheckSpan, mayBe, SameInts: what counts and matchings lean on. -/
namespace Go.Proofs.YtlamhfbdeinkkaeGreat.Ma
open Go.RowKit
set_option linter.unusedSimpArgs false
set_option linter.unusedVariables false

set_option maxHeartbeats 400000 in
theorem check_any (f t n : Int) (w : World) :
    Calls Tryz.prog 58 #[.agg #[.int .i64 f, .int .i64 t], .int .i64 n] w fun e w' => e = .returned (.int .i64 (P.chk f t n)) ∧ Below w.heap.size w w' := by
  cases hs : P.sails n <;> by_cases h1 : f < 0 <;> by_cases h2 : n < t <;> by_cases h3 : t ≤ f
  all_goals
    go_enter Tryz.func58, Tryz.ntmps58
    go_wp2_with (go_at_call 114; refine (sails_any _ _).mono ?_; rintro e w' ⟨rfl, rfl⟩; rw [hs])
    go_ret
    refine ⟨by simp [P.chk, hs, h1, h2, h3] <;> (repeat' split) <;> first | rfl | omega, ?_⟩
    go_grown

set_option maxHeartbeats 400000 in
theorem checkSpan_any (f t n : Int) (w : World) :
    Calls Tryz.prog 127 #[.agg #[.int .i64 f, .int .i64 t], .int .i64 n] w fun e w' => e = .returned (.int .i64 (P.chk f t n)) ∧ Below w.heap.size w w' := by
  cases hs : P.sails n <;> by_cases h1 : f < 0 <;> by_cases h2 : n < t <;> by_cases h3 : t ≤ f
  all_goals
    go_enter Tryz.func127, Tryz.ntmps127
    go_wp2_with (go_at_call 74; refine (between17_any _ _).mono ?_; rintro e w' ⟨rfl, rfl⟩; rw [hs])
    go_ret
    refine ⟨by simp [P.chk, hs, h1, h2, h3] <;> (repeat' split) <;> first | rfl | omega, ?_⟩
    go_grown

theorem chk_zero {f t n : Int} (h : P.chk f t n = 0) : 0 ≤ f ∧ f < t ∧ t ≤ n ∧ n ≤ 7 ∧ 1 ≤ n ∧ P.sails n = true := by
  unfold P.chk at h
  split at h
  · omega
  · split at h
    · omega
    · rename_i h1 h2
      have hs : P.sails n = true := by cases hh : P.sails n <;> simp_all
      have hs2 := hs
      simp [P.sails] at hs2
      exact ⟨by omega, by omega, by omega, hs2.2, hs2.1, hs⟩

/-- The value v is a slice of the call's own (blocks from base on) that holds the numbers l. -/
abbrev OwnI (w : World) (base : Nat) (v : Value) (l : List Int) : Prop := w.ownsRow base 3 1 v l.length (l.map (Value.int .i64))
theorem Tryz.infoInt : (Tryz.prog.info? 3).map (fun i => (i.zero, i.size, i.bytes)) = some (some (.int .i64 0), 1, 8) := by kernel_rfl

theorem OwnI.at {w : World} {base : Nat} {v : Value} {l : List Int} (h : OwnI w base v l) : ∃ ao cap, v = .slice ao l.length cap ∧ IntsAt w ao cap l := by
  rcases h.2 with ⟨rfl, h0⟩ | ⟨g, cap, cur, rfl, hb, hg, hn, hm, hs, ht⟩
  · refine ⟨none, 0, by rw [h0], by omega, by simp [maxLen], fun _ => rfl, by omega⟩
  · refine ⟨some ⟨g, 0, none⟩, cap, rfl, hn, hm, (fun h => by cases h), fun h0 => ⟨g, 0, rfl, ?_, fun i hi => ?_⟩⟩
    · rcases Nat.lt_or_ge g w.heap.size with hlt | hge
      · exact hlt
      · rw [Array.getElem?_eq_none hge] at hg; cases hg
    · refine ⟨[.int .i64 l[i]], rfl, rfl, fun j u hj => ?_⟩
      have k0 := World.ownsRow.cellAt h i (by omega)
      match j, hj with
      | 0, hj =>
        simp at hj
        subst hj
        simpa [hi] using k0

theorem OwnI.below {w w' : World} {base : Nat} {v : Value} {l : List Int} (h : OwnI w base v l) (hb : Below w.heap.size w w') : OwnI w' base v l := by
  refine ⟨h.1, ?_⟩
  rcases h.2 with h2 | ⟨g, cap, cur, hv, hg, hh, r⟩
  · exact Or.inl h2
  · refine Or.inr ⟨g, cap, cur, hv, hg, ?_, r⟩
    rw [hb.block g (Array.getElem?_eq_some_iff.1 hh).1]
    exact hh

theorem grownI_below {w W0 w' : World} {base : Nat} {v : Value} {l : List Int} (hB : Below w.heap.size w W0) (hown : OwnI W0 base v l) (hb : w.heap.size ≤ base) (hg : W0.grownBy w' v.ownBlock) : Below w.heap.size w w' :=
  hB.grown hg hB.size (fun j hj => Nat.le_trans hb (hown.lt j hj).1)

theorem news_one {w : World} (a : Int) (t : TypeId) : ∀ j u, ([.int .i64 a] : List Value)[j]? = some u → (w.alloc (.cells #[.int .i64 a] t)).cell? ((⟨w.heap.size, 0, none⟩ : Addr).add j) = some u := by
  intro j u hu
  match j, hu with
  | 0, hu => simp at hu; subst hu; simp [Addr.add]

theorem grownA {w w' : World} {o : Obj} {row : Option Nat} (h : (w.alloc o).grownBy w' row) : w.grownBy w' row :=
  ⟨h.os, h.tape, h.output, Nat.le_trans (by simp) h.size, fun k hk hr => (h.block k (by simp; omega) hr).trans (Below.heap_alloc w o k hk)⟩

/-- 'append(v, n)', n laid into a block of its own just ahead. -/
theorem wpList_append_int {ops : Array Oper} {rest : List Oper} {o : Oper} {a : Act} {Q : Exit → Act → World → Prop} {W0 : World} (hgd : o.guard = none) (s x : Operand)
    (ho : o.op = .call { callee := .builtin .append, args := #[s, x], argTypes := #[47, 47] }) (base : Nat) (v : Value) (l : List Int) (n : Int) (hs : a.eval s = v) (hown : OwnI W0 base v l)
    (H : Nat) (hH : W0.heap.size = H) (hx : a.eval x = .slice (some ⟨H, 0, none⟩) 1 1) (hb : base ≤ W0.heap.size) (hn : l.length ≤ 1000000)
    (h : ∀ v' w', OwnI w' base v' (l ++ [n]) → W0.grownBy w' v.ownBlock → wpList Tryz.prog ops Q rest (a.put o.dst v') w') : wpList Tryz.prog ops Q (o :: rest) a (W0.alloc (.cells #[.int .i64 n] 3)) := by
  subst hH
  obtain ⟨i0, hi, hi0, hi1, hi2⟩ := info_parts Tryz.infoInt
  refine wpList_append_own _ hgd s x 47 ho base 3 i0 _ 1 8 Tryz.underlying47 hi hi0 hi1 hi2 rfl (by decide) v l.length (l.map (Value.int .i64)) hs (World.ownsRow.alloc hown _) ⟨W0.heap.size, 0, none⟩ 1 1 [.int .i64 n] hx rfl (news_one n _) (by simp; exact rfl) (by simp only [maxLen]; omega) (by omega) (by simp; omega) ?_
  intro v' w' h1 h2 _
  refine h v' w' ?_ (grownA h2)
  simpa [OwnI] using h1

theorem drop_eqI {a b : List Int} {s t : Int} {k : Nat} (ha : a.drop k = s :: a.drop (k + 1)) (hb : b.drop k = t :: b.drop (k + 1)) : a.drop k = b.drop k ↔ s = t ∧ a.drop (k + 1) = b.drop (k + 1) := by
  rw [ha, hb, List.cons.injEq]

set_option maxHeartbeats 1000000 in
theorem sameInts_any (ao bo : Option Addr) (ca cb : Nat) (a b : List Int) (w : World) (ha : IntsAt w ao ca a) (hb : IntsAt w bo cb b) :
    Calls Tryz.prog 39 #[.slice ao a.length ca, .slice bo b.length cb] w fun e w' => e = .returned (.bool (decide (a = b))) ∧ Below w.heap.size w w' := by
  have hle := ha.le
  have hmx := ha.max
  have hle' := hb.le
  have hmx' := hb.max
  unfold maxLen at hmx hmx'
  by_cases hlen : a.length = b.length
  · have HL : Aside (a.length = b.length) := hlen
    have hne : ((a.length : Int) != (b.length : Int)) = false := by simp [hlen]
    go_enter Tryz.func39, Tryz.ntmps39
    clear hlen
    go_wp2
    go_loopg [5] a.length (fun g i wr => ∃ (k : Nat), k ≤ a.length ∧ g = a.length - k ∧ i = .int .i64 k ∧ (a.drop k = b.drop k ↔ a = b) ∧ Below w.heap.size w wr)
    case atStart => exact ⟨0, Nat.zero_le _, rfl, rfl, Iff.rfl, Below.refl _ _⟩
    case round =>
      obtain ⟨k, hk, rfl, rfl, hP, hB⟩ := hrel
      have hBs := hB.size
      have HP : Aside (a.drop k = b.drop k ↔ a = b) := hP
      clear hP
      by_cases hlt : k < a.length
      · have hlt' : k < b.length := by have := HL.out; omega
        obtain ⟨b1, o1, f, rfl, hbw, hd, hc0⟩ := ha.get hB k hlt
        obtain ⟨b2, o2, f', rfl, hbw', hd', hc0'⟩ := hb.get hB k hlt'
        have HE : Aside (a.drop k = b.drop k ↔ f = f' ∧ a.drop (k + 1) = b.drop (k + 1)) := drop_eqI hd hd'
        clear hd hd'
        have hi1 : (k : Int) < (a.length : Int) := by omega
        have hi2 : (k : Int) < (b.length : Int) := by omega
        have hi3 : (0 : Int) ≤ (k : Int) := by omega
        by_cases e1 : f = f'
        · subst e1
          have HQ : Aside (a.drop (k + 1) = b.drop (k + 1) ↔ a = b) := by show _ ↔ _; rw [← HP.out, HE.out]; simp
          clear HE HP
          go_wp2
          go_quiet (fail)
          go_wp2
          go_roundg (a.length - (k + 1))
          case measure => omega
          case rel => exact ⟨k + 1, by omega, rfl, by go_num, HQ.out, below_drewN hB _⟩
        · have e1' : (f != f') = true := by simpa using e1
          have HN : Aside (decide (a = b) = false) := by
            rw [decide_eq_false_iff_not]; intro h; exact e1 (HE.out.1 (HP.out.2 h)).1
          clear HE HP
          go_wp2
          go_quiet (fail)
          go_wp2
          go_ret
          exact ⟨ret_bool HN.out.symm, below_drewN hB _⟩
      · have : k = a.length := by omega
        subst this
        go_wp2
        go_ret
        have hP := HP.out
        refine ⟨ret_bool ?_, hB⟩
        rw [List.drop_of_length_le (Nat.le_refl _), List.drop_of_length_le (by rw [HL.out]; exact Nat.le_refl _)] at hP
        simp [hP.1 rfl]
  · have hne : ((a.length : Int) != (b.length : Int)) = true := by rw [bne_iff_ne]; omega
    go_enter Tryz.func39, Tryz.ntmps39
    go_wp2
    go_ret
    exact ⟨ret_bool (by rw [eq_comm, decide_eq_false_iff_not]; intro h; exact hlen (by rw [h])), Below.refl _ _⟩

end Go.Proofs.YtlamhfbdeinkkaeGreat.Ma
/- Walks of IndexFunc, ContainsFunc, count.Check, CheckCount, checkBoth, checkAll, CheckMore. -/
namespace Go.Proofs.YtlamhfbdeinkkaeGreat.Ma
open Go.RowKit
set_option linter.unusedSimpArgs false
set_option linter.unusedVariables false

theorem getI {l : List Int} {k : Nat} {x : Int} (hk : k < l.length) (hD : l.drop k = x :: l.drop (k + 1)) : l[k] = x := by
  have := List.drop_eq_getElem_cons hk
  rw [hD] at this
  simp only [List.cons.injEq] at this
  exact this.1.symm
theorem any_hit {l : List Int} {p : Int → Bool} {k : Nat} {x : Int} (hk : k < l.length) (hD : l.drop k = x :: l.drop (k + 1)) (h : p x = true) : l.any p = true := by
  rw [List.any_eq_true]
  exact ⟨x, by have := getI hk hD; rw [← this]; exact List.getElem_mem hk, h⟩
theorem any_on {l : List Int} {p : Int → Bool} {k : Nat} {x : Int} (hP : (l.drop k).any p = l.any p) (hD : l.drop k = x :: l.drop (k + 1)) (h : p x = false) : (l.drop (k + 1)).any p = l.any p := by
  rw [hD, List.any_cons, h, Bool.false_or] at hP
  exact hP
theorem any_none {l : List Int} {p : Int → Bool} (hP : (l.drop l.length).any p = l.any p) : l.any p = false := by
  rw [List.drop_of_length_le (Nat.le_refl _)] at hP
  simpa using hP.symm

set_option maxHeartbeats 1000000 in
/-- 'IndexFunc', with whatever function literal that answers p: it is below 0 just if there is none. -/
theorem indexFunc_any (ao : Option Addr) (cap : Nat) (l : List Int) (F : Nat) (cs : Array Value) (p : Int → Bool) (w : World) (hl : IntsAt w ao cap l)
    (hcf : ∀ (args : Array Value) (wx : World), (callFunc F args).run Tryz.prog wx = .ok (.enter F args) wx)
    (hp : Hid (∀ (x : Int) (wx : World), x ∈ l → Below w.heap.size w wx → Calls Tryz.prog F (#[.int .i64 x] ++ cs) wx fun e w' => e = .returned (.bool (p x)) ∧ Below wx.heap.size wx w')) :
    Calls Tryz.prog 174 #[.slice ao l.length cap, .func (.func F) #[] cs] w fun e w' => ∃ n : Int, e = .returned (.int .i64 n) ∧ decide (0 ≤ n) = l.any p ∧ Below w.heap.size w w' := by
  have hle := hl.le
  have hmx := hl.max
  unfold maxLen at hmx
  go_enter Tryz.func174, Tryz.ntmps174
  go_wp2
  go_loopg [8] l.length (fun g i wr => ∃ (k : Nat), k ≤ l.length ∧ g = l.length - k ∧ i = .int .i64 k ∧ (l.drop k).any p = l.any p ∧ Below w.heap.size w wr)
  case atStart => exact ⟨0, Nat.zero_le _, rfl, rfl, rfl, Below.refl _ _⟩
  case round =>
    obtain ⟨k, hk, rfl, rfl, hP, hB⟩ := hrel
    have HP : Aside ((l.drop k).any p = l.any p) := hP
    clear hP
    by_cases hlt : k < l.length
    · obtain ⟨b, off, x, rfl, hbw, hd, hc0⟩ := hl.get hB k hlt
      have HD : Aside (l.drop k = x :: l.drop (k + 1)) := hd
      have hx : x ∈ l := by rw [← getI hlt hd]; exact List.getElem_mem hlt
      clear hd
      cases hpf : p x
      · go_wp2_with fail
        refine (hp.out x _ hx hB).mono ?_
        rintro e w1 ⟨rfl, hb1⟩
        rw [hpf]
        go_wp2
        go_roundg (l.length - (k + 1))
        case measure => omega
        case rel => exact ⟨k + 1, by omega, rfl, by go_num, any_on HP.out HD.out hpf, bvia hB hb1⟩
      · go_wp2_with fail
        refine (hp.out x _ hx hB).mono ?_
        rintro e w1 ⟨rfl, hb1⟩
        rw [hpf]
        go_wp2
        go_ret
        exact ⟨_, rfl, by rw [any_hit hlt HD.out hpf, decide_eq_true_iff]; omega, bvia hB hb1⟩
    · obtain rfl : k = l.length := by omega
      go_wp2
      go_ret
      exact ⟨_, rfl, by rw [any_none HP.out]; rfl, hB⟩

set_option maxHeartbeats 1000000 in
theorem containsFunc_any (ao : Option Addr) (cap : Nat) (l : List Int) (F : Nat) (cs : Array Value) (p : Int → Bool) (w : World) (hl : IntsAt w ao cap l)
    (hcf : ∀ (args : Array Value) (wx : World), (callFunc F args).run Tryz.prog wx = .ok (.enter F args) wx)
    (hp : Hid (∀ (x : Int) (wx : World), x ∈ l → Below w.heap.size w wx → Calls Tryz.prog F (#[.int .i64 x] ++ cs) wx fun e w' => e = .returned (.bool (p x)) ∧ Below wx.heap.size wx w')) :
    Calls Tryz.prog 111 #[.slice ao l.length cap, .func (.func F) #[] cs] w fun e w' => e = .returned (.bool (l.any p)) ∧ Below w.heap.size w w' := by
  go_enter Tryz.func111, Tryz.ntmps111
  go_wp2_with fail
  refine (indexFunc_any ao cap l F cs p w hl hcf hp).mono ?_
  rintro e w1 ⟨n, rfl, hn, hb1⟩
  have HN : Aside (decide (0 ≤ n) = l.any p) := hn
  clear hn
  go_wp2
  go_ret
  exact ⟨ret_bool (by rw [← HN.out]), hb1⟩

theorem arr1 (a : Value) : (#[a] ++ #[] : Array Value) = #[a] := rfl
theorem arr2 (a b : Value) : (#[a] ++ #[b] : Array Value) = #[a, b] := rfl
theorem arr3 (a b c : Value) : (#[a] ++ #[b, c] : Array Value) = #[a, b, c] := rfl

end Go.Proofs.YtlamhfbdeinkkaeGreat.Ma
/- Walks of hasLeg and its function literals, with, slices.Max, slices.Index. -/
namespace Go.Proofs.YtlamhfbdeinkkaeGreat.Ma
open Go.RowKit
set_option linter.unusedSimpArgs false
set_option linter.unusedVariables false

def P.seg (l : List Int) (f t : Nat) : List Int := (l.drop f).take (t - f)
theorem row_of_made {w : World} {base b n : Nat} {t : TypeId} {z : Value} (h : w.ownsRow base t 1 (.slice (some ⟨b, 0, none⟩) n n) n (madeCells #[z] (n * 1)).toList) : w.rowIs b t n (fun _ => z) := by
  rcases h.2 with ⟨h1, _⟩ | ⟨g, cap, cur, h1, _, h3, _, _, h6, h7⟩
  · cases h1
  · simp only [Value.slice.injEq, Option.some.injEq, Addr.mk.injEq] at h1
    obtain ⟨⟨rfl, _⟩, _, rfl⟩ := h1
    refine ⟨cur, h3, by simpa using h6, fun i hi => ?_⟩
    have : (cur.toList.take (n * 1))[i]? = (madeCells #[z] (n * 1)).toList[i]? := by rw [h7]
    rw [List.getElem?_take, if_pos (by omega), Array.getElem?_toList, Array.getElem?_toList] at this
    rw [this]
    simp [madeCells, hi, Nat.mod_one]

/-- A row of numbers that the call made is a list of its own. -/
theorem own_of_row {w : World} {base g n : Nat} {l : List Int} (h : w.rowIs g 3 n (fun i => .int .i64 (l.getD i 0))) (hb : base ≤ g) (hn : l.length = n) (hm : n ≤ maxLen) : OwnI w base (.slice (some ⟨g, 0, none⟩) n n) l := by
  obtain ⟨c, h1, h2, h3⟩ := h
  refine ⟨by simp, .inr ⟨g, n, c, by rw [hn], hb, h1, by omega, hm, by omega, ?_⟩⟩
  apply List.ext_getElem?
  intro i
  rw [List.getElem?_take]
  by_cases hi : i < n
  · have := h3 i hi
    rw [if_pos (by omega), Array.getElem?_toList, this]
    have hil : i < l.length := by omega
    simp [hil]
  · rw [if_neg (by omega)]
    symm
    simp
    omega

theorem cell_far {w : World} {b o b' o' : Nat} {v : Value} (h : b' ≠ b) : (w.setCell ⟨b', o', none⟩ v).cell? ⟨b, o, none⟩ = w.cell? ⟨b, o, none⟩ := by
  have := Go.Deep.blk_setCell_other w ⟨b', o', none⟩ v b (fun e => h e.symm)
  simp only [World.cell?, this]

theorem below_grown {w w' : World} (h : w.grownBy w' none) : Below w.heap.size w w' := ⟨h.os, h.tape, h.output, h.size, fun k hk => h.block k hk (by simp)⟩

end Go.Proofs.YtlamhfbdeinkkaeGreat.Ma
set_option maxRecDepth 10000
/- Walks of Add, Take, Fits, Peak of package count. -/
namespace Go.Proofs.YtlamhfbdeinkkaeGreat.Ma
open Go.RowKit
set_option linter.unusedSimpArgs false
set_option linter.unusedVariables false

/-- The greatest number of the legs from f to ahead of t; the first leg that has it. -/
structure PeakAt (l : List Int) (f t : Nat) (m : Int) (a : Nat) : Prop where
  lo : f ≤ a
  hi : a < t
  is : l.getD a 0 = m
  most : ∀ i, f ≤ i → i < t → l.getD i 0 ≤ m
  first : ∀ i, f ≤ i → i < a → l.getD i 0 < m
theorem PeakAt.one {l : List Int} {f t : Nat} {m m' : Int} {a a' : Nat} (h : PeakAt l f t m a) (h' : PeakAt l f t m' a') : m = m' ∧ a = a' := by
  have h1 := h.most a' h'.lo h'.hi
  have h2 := h'.most a h.lo h.hi
  rw [h'.is] at h1
  rw [h.is] at h2
  have e : m = m' := by omega
  subst e
  refine ⟨rfl, ?_⟩
  rcases Nat.lt_trichotomy a a' with h3 | h3 | h3
  · have := h'.first a h.lo h3
    have := h.is
    omega
  · exact h3
  · have := h.first a' h'.lo h3
    have := h'.is
    omega

end Go.Proofs.YtlamhfbdeinkkaeGreat.Ma
/- Walks of the reference on counts: CheckMore, MoreOf, PeakOf; intsAre; countBegun. -/
namespace Go.Proofs.YtlamhfbdeinkkaeGreat.Ma
open Go.RowKit
set_option linter.unusedSimpArgs false
set_option linter.unusedVariables false

theorem ints3 (w : World) (a b c : Int) : IntsAt (w.alloc (.cells #[.int .i64 a, .int .i64 b, .int .i64 c] 3)) (some ⟨w.heap.size, 0, none⟩) 3 [a, b, c] := by
  have hl := heap_fold [.cells #[.int .i64 a, .int .i64 b, .int .i64 c] 3] w 0
  exact SlAt.ofBlock [[.int .i64 a], [.int .i64 b], [.int .i64 c]] (l := [a, b, c]) hl rfl rfl (fun i hi => by have hi : i < 3 := hi; match i, hi with | 0, _ => exact ⟨_, rfl, rfl⟩ | 1, _ => exact ⟨_, rfl, rfl⟩ | 2, _ => exact ⟨_, rfl, rfl⟩) (by simp) (by simp [maxLen])

end Go.Proofs.YtlamhfbdeinkkaeGreat.Ma
