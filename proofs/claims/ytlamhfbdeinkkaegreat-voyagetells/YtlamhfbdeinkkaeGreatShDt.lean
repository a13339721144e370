import Derived.Test.YtlamhfbdeinkkaeGreatShCt
import Derived.Deep.AppendLies
import Derived.Deep.OwnRows
set_option maxRecDepth 10000
/- The walk of the reference's isName. -/
namespace Go.Proofs.YtlamhfbdeinkkaeGreat.Sh
open Go.RowKit
set_option linter.unusedSimpArgs false
set_option linter.unusedVariables false

theorem between2_any (n a b : Int) (w : World) :
    Calls Tryz.prog 74 #[.int .i64 n, .int .i64 a, .int .i64 b] w fun e w' => e = .returned (.bool (P.btw n a b)) ∧ w' = w :=
  (between_any n a b w).mono fun e w' ⟨h1, h2⟩ => ⟨h1, h2.symm⟩

theorem sign_btw (c : Nat) : P.sign c = (P.btw c 65 90 || P.btw c 48 57) := by
  simp only [P.sign, P.btw]
  have e : ∀ a : Nat, decide ((a : Int) ≤ c) = decide (a ≤ c) ∧ decide ((c : Int) ≤ a) = decide (c ≤ a) := fun a => ⟨by rw [decide_eq_decide]; omega, by rw [decide_eq_decide]; omega⟩
  have e65 := e 65
  have e90 := e 90
  have e48 := e 48
  have e57 := e 57
  simp only [Int.cast_ofNat_Int] at e65 e90 e48 e57
  rw [e65.1, e90.2, e48.1, e57.2]

theorem name_no {s : ByteArray} {k : Nat} (hk : k < s.size) (h : P.sign (P.byteAt s k) = false) : P.name s = false := by
  rw [P.name]
  have : P.some (fun i => !P.sign (P.byteAt s i)) s.size = true := (some_iff _ _).2 ⟨k, hk, by simp [h]⟩
  rw [this]
  simp

theorem name_yes {s : ByteArray} (h : ∀ j, j < s.size → P.sign (P.byteAt s j) = true) : P.name s = P.btw s.size 1 8 := by
  rw [P.name]
  have : P.some (fun i => !P.sign (P.byteAt s i)) s.size = false := by
    cases e : P.some (fun i => !P.sign (P.byteAt s i)) s.size with
    | false => rfl
    | true =>
      obtain ⟨i, hi, h2⟩ := (some_iff _ _).1 e
      simp [h i hi] at h2
  rw [this]
  simp

set_option maxHeartbeats 1000000 in
theorem refName_any (s : ByteArray) (w : World) (hs : s.size ≤ maxLen) :
    Calls Tryz.prog 125 #[.string s] w fun e w' => e = .returned (.bool (P.name s)) ∧ w' = w := by
  have hs' : s.size ≤ 9223372036854775807 := by simpa only [maxLen] using hs
  clear hs
  go_enter Tryz.func125, Tryz.ntmps125
  go_wp2_with fail
  go_loopg [3] s.size (fun g i wx => ∃ (k : Nat), k ≤ s.size ∧ g = s.size - k ∧ i = .int .i64 k ∧ wx = w ∧ Aside (∀ j, j < k → P.sign (P.byteAt s j) = true))
  case atStart => exact ⟨0, Nat.zero_le _, rfl, rfl, rfl, fun j hj => by omega⟩
  case round =>
    obtain ⟨k, hk, rfl, rfl, rfl, HA⟩ := hrel
    by_cases hkl : k < s.size
    · have HE : Aside (P.byteAt s k = s[k].toNat) := byteAt_eq hkl
      have HS : Aside (P.sign (P.byteAt s k) = (P.btw s[k].toNat 65 90 || P.btw s[k].toNat 48 57)) := by show _ = _; rw [HE.out, sign_btw]
      have HW : Aside (wrap64 (s[k].toNat : Int) = s[k].toNat) := by show _ = _; have := s[k].toNat_lt; unfold wrap64; omega
      cases h1 : P.btw s[k].toNat 65 90
      · cases h2 : P.btw s[k].toNat 48 57
        · have HN : Aside (P.name s = false) := name_no hkl (by rw [HS.out, h1, h2]; rfl)
          go_wp2_with (go_at_call 74; rw [HW.out]; refine (between2_any _ _ _ _).mono ?_; rintro e w1 ⟨rfl, rfl⟩; first | rw [h1] | rw [h2])
          go_ret
          exact ⟨ret_bool HN.out.symm, rfl⟩
        · have HN : Aside (∀ j, j < k + 1 → P.sign (P.byteAt s j) = true) := fun j hj => by
            rcases Nat.lt_succ_iff_lt_or_eq.1 hj with h | rfl
            · exact HA.out j h
            · rw [HS.out, h1, h2]; rfl
          go_wp2_with (go_at_call 74; rw [HW.out]; refine (between2_any _ _ _ _).mono ?_; rintro e w1 ⟨rfl, rfl⟩; first | rw [h1] | rw [h2])
          go_roundg (s.size - (k + 1))
          case measure => omega
          case rel => exact ⟨k + 1, by omega, rfl, by go_num, rfl, HN⟩
      · have HN : Aside (∀ j, j < k + 1 → P.sign (P.byteAt s j) = true) := fun j hj => by
          rcases Nat.lt_succ_iff_lt_or_eq.1 hj with h | rfl
          · exact HA.out j h
          · rw [HS.out, h1]; rfl
        go_wp2_with (go_at_call 74; rw [HW.out]; refine (between2_any _ _ _ _).mono ?_; rintro e w1 ⟨rfl, rfl⟩; rw [h1])
        go_roundg (s.size - (k + 1))
        case measure => omega
        case rel => exact ⟨k + 1, by omega, rfl, by go_num, rfl, HN⟩
    · obtain rfl : k = s.size := by omega
      have HN : Aside (P.name s = P.btw s.size 1 8) := name_yes HA.out
      go_wp2_with (go_at_call 74; refine (between2_any _ _ _ _).mono ?_; rintro e w1 ⟨rfl, rfl⟩)
      go_ret
      exact ⟨ret_bool HN.out.symm, rfl⟩

end Go.Proofs.YtlamhfbdeinkkaeGreat.Sh
/- The reference's table (a slice of rows that the call makes): how it lies; the walk of ServeTable. -/
namespace Go.Proofs.YtlamhfbdeinkkaeGreat.Sh
open Go.RowKit
set_option linter.unusedSimpArgs false
set_option linter.unusedVariables false
set_option linter.unnecessarySimpa false

/-- Behind ⟨g, 0⟩ lie n rows; row i lies in block B i, and holds T i. -/
structure TblAt (w : World) (base n g : Nat) (B : Nat → Nat) (T : Tab) : Prop where
  lo : base ≤ g
  rlo : ∀ i, i < n → base ≤ B i ∧ B i ≠ g
  inj : ∀ i j, i < n → j < n → B i = B j → i = j
  out : ∀ i, i < n → w.cell? ⟨g, i, none⟩ = some (.slice (some ⟨B i, 0, none⟩) n n)
  row : ∀ i, i < n → w.rowIs (B i) 4 n (fun j => .bool (T i j))

section
variable {w w' : World} {base n g : Nat} {B : Nat → Nat} {T T' : Tab}
theorem TblAt.get (h : TblAt w base n g B T) {i j : Nat} (hi : i < n) (hj : j < n) : w.cell? ⟨B i, j, none⟩ = some (.bool (T i j)) := (h.row i hi).cell hj
theorem TblAt.frozen (h : TblAt w base n g B T) {i : Nat} (hi : i < n) (j : Nat) : w.frozen? ⟨B i, j, none⟩ = false := (h.row i hi).frozen j
theorem TblAt.congr (h : TblAt w base n g B T) (e : ∀ x y, x < n → y < n → T x y = T' x y) : TblAt w base n g B T' :=
  ⟨h.lo, h.rlo, h.inj, h.out, fun i hi => (h.row i hi).congr fun j hj => by rw [e i j hi hj]⟩
theorem TblAt.below (h : TblAt w base n g B T) (hb : Below w.heap.size w w') : TblAt w' base n g B T :=
  ⟨h.lo, h.rlo, h.inj, fun i hi => cellIn hb (h.out i hi), fun i hi => (h.row i hi).of_block (hb.block _ (h.row i hi).lt)⟩
theorem TblAt.put (h : TblAt w base n g B T) {i j : Nat} {v : Bool} (hi : i < n) (hj : j < n) (h1 : T' i j = v) (h2 : ∀ x y, x < n → y < n → ¬ (x = i ∧ y = j) → T' x y = T x y) : TblAt (w.setCell ⟨B i, j, none⟩ (.bool v)) base n g B T' := by
  refine ⟨h.lo, h.rlo, h.inj, fun k hk => ?_, fun k hk => ?_⟩
  · rw [World.cell?_of_block (Below.heap_setCell w ⟨B i, j, none⟩ (.bool v) g (fun e => (h.rlo i hi).2 e.symm))]
    exact h.out k hk
  · by_cases e : k = i
    · subst e
      refine World.rowIs.congr (World.rowIs.set (h.row k hk) j (.bool v)) fun y hy => ?_
      by_cases e2 : y = j
      · rw [if_pos e2, e2, h1]
      · rw [if_neg e2, h2 k y hk hy (by omega)]
    · refine World.rowIs.congr (World.rowIs.setOther (h.row k hk) (fun e2 => e (h.inj k i hk hi e2)) _) fun y hy => ?_
      rw [h2 k y hk hy (by omega)]
end

/-- The table in the making: k rows of n, all false. -/
structure TblUp (w : World) (base n k : Nat) (v : Value) (B : Nat → Nat) : Prop where
  own : w.ownsRow base 155 1 v k ((List.range k).map fun i => .slice (some ⟨B i, 0, none⟩) n n)
  rlo : ∀ i, i < k → base ≤ B i ∧ v.ownBlock ≠ some (B i)
  inj : ∀ i j, i < k → j < k → B i = B j → i = j
  row : ∀ i, i < k → w.rowIs (B i) 4 n (fun _ => .bool false)

theorem TblUp.done {w : World} {base n : Nat} {v : Value} {B : Nat → Nat} (h : TblUp w base n n v B) (hn : 0 < n) : ∃ g cap, v = .slice (some ⟨g, 0, none⟩) n cap ∧ TblAt w base n g B (fun _ _ => false) := by
  obtain ⟨g, cap, rfl, hb, _⟩ := h.own.form hn
  refine ⟨g, cap, rfl, hb, fun i hi => ⟨(h.rlo i hi).1, fun e => (h.rlo i hi).2 (by rw [e]; rfl)⟩, h.inj, fun i hi => ?_, h.row⟩
  have := h.own.cells (g := g) rfl i (.slice (some ⟨B i, 0, none⟩) n n) (by simp [hi])
  rw [Go.WideShapes.add_plain] at this
  simpa using this

theorem row_of_made {w : World} {base b n : Nat} {t : TypeId} {z : Value} (h : w.ownsRow base t 1 (.slice (some ⟨b, 0, none⟩) n n) n (madeCells #[z] (n * 1)).toList) : w.rowIs b t n (fun _ => z) := by
  rcases h.2 with ⟨h1, _⟩ | ⟨g, cap, cur, h1, _, h3, _, _, h6, h7⟩
  · cases h1
  · simp only [Value.slice.injEq, Option.some.injEq, Addr.mk.injEq] at h1
    obtain ⟨⟨rfl, _⟩, _, rfl⟩ := h1
    refine ⟨cur, h3, by simpa using h6, fun i hi => ?_⟩
    have : (cur.toList.take (n * 1))[i]? = (madeCells #[z] (n * 1)).toList[i]? := by rw [h7]
    rw [List.getElem?_take, if_pos (by omega), Array.getElem?_toList, Array.getElem?_toList] at this
    rw [this]
    simp [madeCells, hi, Nat.mod_one]

/-- One row more. wr: ahead of the round; w1: the row is made; W: it lies in a block of its own, for the append; w2: behind it. -/
theorem TblUp.more {wr w1 w2 : World} {base n k g cap : Nat} {v : Value} {B : Nat → Nat} {o : Obj} (h : TblUp wr base n k v B) (hbase : base ≤ wr.heap.size) (h1 : wr.grownBy w1 none) (hrow : w1.rowIs wr.heap.size 4 n (fun _ => .bool false))
    (hown : w2.ownsRow base 155 1 (.slice (some ⟨g, 0, none⟩) (k + 1) cap) (k + 1) (((List.range k).map fun i => Value.slice (some ⟨B i, 0, none⟩) n n) ++ [.slice (some ⟨wr.heap.size, 0, none⟩) n n]))
    (hg : (w1.alloc o).grownBy w2 v.ownBlock) (hat : v.ownBlock = some g ∨ g = w1.heap.size + 1) : TblUp w2 base n (k + 1) (.slice (some ⟨g, 0, none⟩) (k + 1) cap) (fun i => if i = k then wr.heap.size else B i) := by
  have hlt := hrow.lt
  have hnew : v.ownBlock ≠ some wr.heap.size := fun e => by have := (h.own.lt _ e).2; omega
  have keep : ∀ b f, w1.rowIs b 4 n f → v.ownBlock ≠ some b → w2.rowIs b 4 n f := fun b f hb hne => hb.of_block ((hg.block b (by have := hb.lt; simp; omega) (Ne.symm hne)).trans (Below.heap_alloc w1 o b hb.lt))
  have old : ∀ i, i < k → w1.rowIs (B i) 4 n (fun _ => .bool false) := fun i hi => (h.row i hi).of_block (h1.block _ (h.row i hi).lt (by simp))
  refine ⟨?_, fun i hi => ?_, fun i j hi hj e => ?_, fun i hi => ?_⟩
  · have e : ((List.range (k + 1)).map fun i => Value.slice (some ⟨(fun i => if i = k then wr.heap.size else B i) i, 0, none⟩) n n) = ((List.range k).map fun i => Value.slice (some ⟨B i, 0, none⟩) n n) ++ [.slice (some ⟨wr.heap.size, 0, none⟩) n n] := by
      rw [List.range_succ, List.map_append]
      congr 1
      · refine List.map_congr_left fun i hi => ?_
        have : i ≠ k := by have := List.mem_range.1 hi; omega
        simp [this]
      · simp
    rw [e]
    exact hown
  · simp only [Value.ownBlock]
    by_cases e : i = k
    · rw [if_pos e]
      refine ⟨hbase, fun e2 => ?_⟩
      simp only [Option.some.injEq] at e2
      rcases hat with h2 | h2
      · exact hnew (by rw [h2, e2])
      · omega
    · rw [if_neg e]
      refine ⟨(h.rlo i (by omega)).1, fun e2 => ?_⟩
      simp only [Option.some.injEq] at e2
      rcases hat with h2 | h2
      · exact (h.rlo i (by omega)).2 (by rw [h2, e2])
      · have := (old i (by omega)).lt; omega
  · have ltB : ∀ i, i < k → B i < wr.heap.size := fun i hi => (h.row i hi).lt
    by_cases ei : i = k <;> by_cases ej : j = k
    · omega
    · rw [if_pos ei, if_neg ej] at e; have := ltB j (by omega); omega
    · rw [if_neg ei, if_pos ej] at e; have := ltB i (by omega); omega
    · rw [if_neg ei, if_neg ej] at e; exact h.inj i j (by omega) (by omega) e
  · by_cases e : i = k
    · rw [if_pos e]; exact keep _ _ hrow hnew
    · rw [if_neg e]; exact keep _ _ (old i (by omega)) (h.rlo i (by omega)).2

/-- What the reference's table begins with; in the midst of its making. -/
def P.rdone (l : List Cat) (k : Nat) : Tab := fun a b => decide (b < k) && P.edge l a b
def P.rpart (l : List Cat) (k : Nat) (hs : List Int) : Tab := fun a b => P.rdone l k a b || (decide (b = k) && hs.any fun h => decide (h = (a : Int)))
def P.rbase (l : List Cat) : Tab := P.rdone l l.length

theorem Tryz.infoRow : (Tryz.prog.info? 155).map (fun i => (i.zero, i.size, i.bytes)) = some (some (.slice none 0 0), 1, 24) := by kernel_rfl
theorem Tryz.infoBool : (Tryz.prog.info? 4).map (fun i => (i.zero, i.size, i.bytes)) = some (some (.bool false), 1, 1) := by kernel_rfl

end Go.Proofs.YtlamhfbdeinkkaeGreat.Sh
/- The walk of the reference's ServeTable. -/
namespace Go.Proofs.YtlamhfbdeinkkaeGreat.Sh
open Go.RowKit
set_option linter.unusedSimpArgs false
set_option linter.unusedVariables false
set_option linter.unnecessarySimpa false

set_option maxRecDepth 100000 in
set_option maxHeartbeats 4000000 in
theorem serveTable_any (legs souls : Int) (cao bao : Option Addr) (cc bc : Nat) (cs : List Cat) (bs : List Cab) (w : World) (hs : ShipAt w cao bao cc bc cs bs) (hn1 : 1 ≤ cs.length) (hn : cs.length ≤ 5) (hh : ∀ c ∈ cs, ∀ h ∈ c.2, 0 ≤ h ∧ h < cs.length) :
    Calls Tryz.prog 126 #[.agg #[.int .i64 legs, .int .i64 souls, .slice cao cs.length cc, .slice bao bs.length bc]] w fun e w' => ∃ g cap B, e = .returned (.slice (some ⟨g, 0, none⟩) cs.length cap) ∧ TblAt w' (w.heap.size + 1) cs.length g B (P.war (P.rbase cs) cs.length) ∧ Below w.heap.size w w' := by
  have HH : Aside (∀ c ∈ cs, ∀ h ∈ c.2, 0 ≤ h ∧ h < cs.length) := hh
  have HS : Aside (ShipAt w cao bao cc bc cs bs) := hs
  clear hs hh
  obtain ⟨i0, hi, hi0, hi1, hi2⟩ := info_parts Tryz.infoRow
  obtain ⟨j0, hj, hj0, hj1, hj2⟩ := info_parts Tryz.infoBool
  have HI : Aside (Tryz.prog.info? 155 = some i0 ∧ i0.zero = some (.slice none 0 0) ∧ i0.size = 1 ∧ i0.bytes = 24) := ⟨hi, hi0, hi1, hi2⟩
  have HJ : Aside (Tryz.prog.info? 4 = some j0 ∧ j0.zero = some (.bool false) ∧ j0.size = 1 ∧ j0.bytes = 1) := ⟨hj, hj0, hj1, hj2⟩
  clear hi hi0 hi1 hi2 hj hj0 hj1 hj2
  go_enter Tryz.func126, Tryz.ntmps126
  go_wp2
  go_loopg [4, 5] cs.length (fun g v i wr => ∃ (k : Nat) (B : Nat → Nat), k ≤ cs.length ∧ g = cs.length - k ∧ i = .int .i64 k ∧ TblUp wr (w.heap.size + 1) cs.length k v B ∧ wr.cell? ⟨w.heap.size, 2, none⟩ = some (.slice cao cs.length cc) ∧ Below (w.heap.size + 1) (w.alloc (.cells #[.int .i64 legs, .int .i64 souls, .slice cao cs.length cc, .slice bao bs.length bc] 25)) wr)
  case atStart => exact ⟨0, fun _ => 0, Nat.zero_le _, rfl, rfl, ⟨World.ownsRow_nil _ _ _ _, fun i hi => by omega, fun i j hi => by omega, fun i hi => by omega⟩, by simp, Below.refl _ _⟩
  case round =>
    obtain ⟨k, B, hk, rfl, rfl, hU, hbx, hB⟩ := hrel
    by_cases hkl : k < cs.length
    · have hBs : w.heap.size + 1 ≤ wr.heap.size := by have := hB.size; simpa using this
      have HU : Aside (TblUp wr (w.heap.size + 1) cs.length k u4 B) := hU
      clear hU
      go_wp2_with (first
        | (at_make; refine wpList_make_full _ (by rfl) _ _ 155 (by rfl) (w.heap.size + 1) 4 j0 _ 1 Tryz.underlying155 HJ.out.1 HJ.out.2.1 HJ.out.2.2.1 _ _ _ _ cs.length (by rfl) (by rfl) rfl rfl (by rw [HJ.out.2.2.2]; omega) (by unfold maxLen; omega) hBs ?_; intro w1 hrow1 hgr1; have hlt1 := (row_of_made hrow1).lt; have h1s := hgr1.size)
        | (at_builtin; refine wpList_append_lies _ (by rfl) _ _ 153 (by rfl) (w.heap.size + 1) 155 i0 _ 1 24 Tryz.underlying153 HI.out.1 HI.out.2.1 HI.out.2.2.1 HI.out.2.2.2 rfl (by decide) u4 k ((List.range k).map fun i => .slice (some ⟨B i, 0, none⟩) cs.length cs.length) (by rfl) ((HU.out.own.kept hgr1 (Classical.em _)).alloc _) ⟨w1.heap.size, 0, none⟩ 1 1 [.slice (some ⟨wr.heap.size, 0, none⟩) cs.length cs.length] (by rfl) (by rfl) (World.news_of_block (cs := #[.slice (some ⟨wr.heap.size, 0, none⟩) cs.length cs.length]) (heap_alloc_new w1 _)) (by simp; exact rfl) (by omega) (by unfold maxLen; omega) (by omega) (by simp; omega) (w1.heap.size + 1) (by simp) ?_; intro g2 cap2 w2 hown2 hgr2 hat2 hlt2))
      go_roundg (cs.length - (k + 1))
      case measure => omega
      case rel =>
        have hw1 : Below wr.heap.size wr w1 := below_none hgr1
        have hB1 : Below (w.heap.size + 1) (w.alloc (.cells #[.int .i64 legs, .int .i64 souls, .slice cao cs.length cc, .slice bao bs.length bc] 25)) w1 := hB.trans ⟨hw1.os, hw1.tape, hw1.output, hw1.size, fun b hb => hw1.block b (by omega)⟩
        have hB2 : Below (w.heap.size + 1) (w.alloc (.cells #[.int .i64 legs, .int .i64 souls, .slice cao cs.length cc, .slice bao bs.length bc] 25)) w2 := (hB1.alloc (by omega) _).grown hgr2 (by simp; omega) (fun b hb => (HU.out.own.lt b hb).1)
        refine ⟨k + 1, _, by omega, rfl, by go_num, TblUp.more HU.out hBs hgr1 (row_of_made hrow1) hown2 hgr2 hat2, ?_, hB2⟩
        rw [hB2.cell (p := ⟨w.heap.size, 2, none⟩) (by show w.heap.size < w.heap.size + 1; omega)]
        simp
    · obtain rfl : k = cs.length := by omega
      obtain ⟨g, cap, rfl, hT⟩ := hU.done (by omega)
      have hB' : Below w.heap.size w wr := (show Below w.heap.size w _ from by go_grown).trans ⟨hB.os, hB.tape, hB.output, hB.size, fun b hb => hB.block b (by omega)⟩
      clear hU hB
      go_wp2
      go_loopg [6] cs.length (fun g' i wx => ∃ (k : Nat), k ≤ cs.length ∧ g' = cs.length - k ∧ i = .int .i64 k ∧ TblAt wx (w.heap.size + 1) cs.length g B (P.rdone cs k) ∧ wx.cell? ⟨w.heap.size, 2, none⟩ = some (.slice cao cs.length cc) ∧ Below w.heap.size w wx)
      case atStart => exact ⟨0, Nat.zero_le _, rfl, rfl, hT.congr (fun x y _ _ => by simp [P.rdone]), hbx, hB'⟩
      case round =>
        clear hT hbx hB'
        obtain ⟨k, hk, rfl, rfl, hT, hbx, hB⟩ := hrel
        by_cases hlt : k < cs.length
        · obtain ⟨b, off, nm, hs, hao, hcap, rfl, hbw, hd, hcw0, hcw1, hin, hnm⟩ := CatsAt.get HS.out.cats (Below.refl _ _) k hlt
          have HG : Aside (cs.getD k (ByteArray.empty, []) = (nm, hs)) := by
            have h1 := List.drop_eq_getElem_cons hlt
            rw [hd] at h1
            simp only [List.cons.injEq] at h1
            show _ = _
            rw [List.getD_eq_getElem?_getD, List.getElem?_eq_getElem hlt, ← h1.1]
            rfl
          have HHs : Aside (∀ h ∈ hs, 0 ≤ h ∧ h < cs.length) := by
            have hm : (nm, hs) ∈ cs := by
              have := List.mem_cons_self (a := (nm, hs)) (l := cs.drop (k + 1))
              rw [← hd] at this
              exact List.mem_of_mem_drop this
            exact HH.out _ hm
          clear hd
          go_wp2
          go_loopg [7] hs.length (fun g' j wx => ∃ (i : Nat), i ≤ hs.length ∧ g' = hs.length - i ∧ j = .int .i64 i ∧ TblAt wx (w.heap.size + 1) cs.length g B (P.rpart cs k (hs.take i)) ∧ wx.cell? ⟨w.heap.size, 2, none⟩ = some (.slice (some ⟨b, off, none⟩) cs.length cc) ∧ Below w.heap.size w wx)
          case atStart => exact ⟨0, Nat.zero_le _, rfl, rfl, hT.congr (fun x y _ _ => by simp [P.rpart]), hbx, hB⟩
          case round =>
            clear hT hbx hB
            obtain ⟨i, hi, rfl, rfl, hT, hbx, hB⟩ := hrel
            have hc1 := cellIn hB hcw1
            have hhl := hin.le
            have hhm := hin.max
            unfold maxLen at hhm
            by_cases hil : i < hs.length
            · obtain ⟨b2, off2, h, rfl, hb2, hd2, hc2⟩ := IntsAt.get hin hB i hil
              have hmem : h ∈ hs := by
                have := List.mem_cons_self (a := h) (l := hs.drop (i + 1))
                rw [← hd2] at this
                exact List.mem_of_mem_drop this
              obtain ⟨hh0, hh1⟩ := HHs.out h hmem
              obtain ⟨H, rfl⟩ : ∃ H : Nat, h = H := ⟨h.toNat, by omega⟩
              have HD : Aside (hs.take (i + 1) = hs.take i ++ [(H : Int)]) := by
                have h1 := List.drop_eq_getElem_cons hil
                rw [hd2] at h1
                simp only [List.cons.injEq] at h1
                show _ = _
                rw [h1.1, List.take_succ_eq_append_getElem hil]
              clear hd2
              have hfr := hT.frozen (i := H) (by omega) k
              have hce := hT.get (i := H) (j := k) (by omega) (by omega)
              have hou := hT.out H (by omega)
              have hlo := hT.rlo H (by omega)
              go_wp2
              go_roundg (hs.length - (i + 1))
              case measure => omega
              case rel =>
                refine ⟨i + 1, by omega, rfl, by go_num, ?_, ?_, hB.setCell (by show w.heap.size ≤ B H; omega) _⟩
                · refine TblAt.put hT (by omega) (by omega) ?_ ?_
                  · unfold P.rpart; rw [HD.out]; simp
                  · intro x y hx hy hne
                    unfold P.rpart
                    rw [HD.out]
                    by_cases e : y = k
                    · subst e
                      have : ¬ (H : Int) = (x : Int) := by intro e2; exact hne ⟨by omega, rfl⟩
                      simp [this]
                    · simp [e]
                · rw [World.cell?_of_block (Below.heap_setCell _ _ _ _ (by show w.heap.size ≠ B H; omega))]
                  exact hbx
            · obtain rfl : i = hs.length := by omega
              rw [List.take_of_length_le (Nat.le_refl _)] at hT
              go_wp2
              go_roundg (cs.length - (k + 1))
              case measure => omega
              case rel =>
                refine ⟨k + 1, by omega, rfl, by go_num, TblAt.congr hT ?_, hbx, hB⟩
                intro x y hx hy
                unfold P.rpart P.rdone P.edge
                by_cases e : y = k
                · subst e
                  rw [HG.out]
                  simp
                · have e2 : decide (y < k) = decide (y < k + 1) := by rw [decide_eq_decide]; omega
                  simp [e, e2]
        · obtain rfl : k = cs.length := by omega
          have hT0 : TblAt wr (w.heap.size + 1) cs.length g B (P.war (P.rbase cs) 0) := hT
          clear hT hbx
          go_wp2
          go_loopg [8] cs.length (fun g' i wx => ∃ (m : Nat), m ≤ cs.length ∧ g' = cs.length - m ∧ i = .int .i64 m ∧ TblAt wx (w.heap.size + 1) cs.length g B (P.war (P.rbase cs) m) ∧ Below w.heap.size w wx)
          case atStart => exact ⟨0, Nat.zero_le _, rfl, rfl, hT0, hB⟩
          case round =>
            clear hT0 hB
            obtain ⟨m, hm, rfl, rfl, hT, hB⟩ := hrel
            by_cases hml : m < cs.length
            · generalize hW : P.war (P.rbase cs) m = T at hT
              have HW : Aside (P.war (P.rbase cs) (m + 1) = P.step T m) := by show _ = _; rw [P.war, hW]
              clear hW
              go_wp2
              go_loopg [9] cs.length (fun g' i wx => ∃ (a : Nat), a ≤ cs.length ∧ g' = cs.length - a ∧ i = .int .i64 a ∧ TblAt wx (w.heap.size + 1) cs.length g B (P.mix T m a 0) ∧ Below w.heap.size w wx)
              case atStart => exact ⟨0, Nat.zero_le _, rfl, rfl, hT.congr (fun x y _ _ => by simp [P.mix]), hB⟩
              case round =>
                clear hT hB
                obtain ⟨a, ha, rfl, rfl, hT, hB⟩ := hrel
                by_cases hal : a < cs.length
                · go_wp2
                  go_loopg [10] cs.length (fun g' i wx => ∃ (b : Nat), b ≤ cs.length ∧ g' = cs.length - b ∧ i = .int .i64 b ∧ TblAt wx (w.heap.size + 1) cs.length g B (P.mix T m a b) ∧ Below w.heap.size w wx)
                  case atStart => exact ⟨0, Nat.zero_le _, rfl, rfl, hT, hB⟩
                  case round =>
                    clear hT hB
                    obtain ⟨b, hb, rfl, rfl, hT, hB⟩ := hrel
                    by_cases hbl : b < cs.length
                    · have g1 := hT.get (i := a) (j := b) (by omega) (by omega)
                      have g2 := hT.get (i := a) (j := m) (by omega) (by omega)
                      have g3 := hT.get (i := m) (j := b) (by omega) (by omega)
                      have o1 := hT.out a (by omega)
                      have o2 := hT.out m (by omega)
                      have hfr := hT.frozen (i := a) (by omega) b
                      have hlo := hT.rlo a (by omega)
                      rw [mix_here] at g1
                      rw [mix_am] at g2
                      rw [mix_mb] at g3
                      have i1 : (a : Int) < cs.length := by omega
                      have i2 : (b : Int) < cs.length := by omega
                      have i3 : (m : Int) < cs.length := by omega
                      have i4 : (0 : Int) ≤ a := by omega
                      have i5 : (0 : Int) ≤ b := by omega
                      have i6 : (0 : Int) ≤ m := by omega
                      have HFIN : Aside ((∀ v, P.step T m a b = v → TblAt (wr.setCell ⟨B a, b, none⟩ (.bool v)) (w.heap.size + 1) cs.length g B (P.mix T m a (b + 1))) ∧ ∀ v, Below w.heap.size w (wr.setCell ⟨B a, b, none⟩ (.bool v))) :=
                        ⟨fun v hv => TblAt.put hT (by omega) (by omega) (by unfold P.mix; rw [if_pos (by omega)]; exact hv) (fun x y hx hy hne => by
                          unfold P.mix
                          by_cases e : x < a ∨ (x = a ∧ y < b)
                          · rw [if_pos e, if_pos (by omega)]
                          · rw [if_neg e, if_neg (by omega)]), fun v => hB.setCell (by show w.heap.size ≤ B a; omega) _⟩
                      have HT : Aside (TblAt wr (w.heap.size + 1) cs.length g B (P.mix T m a b)) := hT
                      clear hT
                      cases t1 : T a b
                      · rw [t1] at g1
                        cases t2 : T a m
                        · rw [t2] at g2
                          have HV : Aside (P.step T m a b = false) := by show _ = _; simp [P.step, t1, t2]
                          clear t1 t2
                          go_wp2
                          go_big_region
                          go_wp2
                          go_roundg (cs.length - (b + 1))
                          case measure => omega
                          case rel => exact ⟨b + 1, by omega, rfl, by go_num, (HFIN.out.1 _ HV.out).below (Below.refl _ _).drew, (HFIN.out.2 _).drew⟩
                        · rw [t2] at g2
                          cases t3 : T m b
                          · rw [t3] at g3
                            have HV : Aside (P.step T m a b = false) := by show _ = _; simp [P.step, t1, t2, t3]
                            clear t1 t2 t3
                            go_wp2
                            go_big_region
                            go_wp2
                            go_roundg (cs.length - (b + 1))
                            case measure => omega
                            case rel => exact ⟨b + 1, by omega, rfl, by go_num, (HFIN.out.1 _ HV.out).below (Below.refl _ _).drew, (HFIN.out.2 _).drew⟩
                          · rw [t3] at g3
                            have HV : Aside (P.step T m a b = true) := by show _ = _; simp [P.step, t1, t2, t3]
                            clear t1 t2 t3
                            go_wp2
                            go_big_region
                            go_wp2
                            go_roundg (cs.length - (b + 1))
                            case measure => omega
                            case rel => exact ⟨b + 1, by omega, rfl, by go_num, (HFIN.out.1 _ HV.out).below (Below.refl _ _).drew, (HFIN.out.2 _).drew⟩
                      · rw [t1] at g1
                        have HV : Aside (P.step T m a b = true) := by show _ = _; simp [P.step, t1]
                        clear t1
                        go_wp2
                        go_big_region
                        go_wp2
                        go_roundg (cs.length - (b + 1))
                        case measure => omega
                        case rel => exact ⟨b + 1, by omega, rfl, by go_num, (HFIN.out.1 _ HV.out).below (Below.refl _ _).drew, (HFIN.out.2 _).drew⟩
                    · obtain rfl : b = cs.length := by omega
                      go_wp2
                      go_roundg (cs.length - (a + 1))
                      case measure => omega
                      case rel =>
                        refine ⟨a + 1, by omega, rfl, by go_num, hT.congr fun x y hx hy => ?_, hB⟩
                        unfold P.mix
                        by_cases e : x < a ∨ (x = a ∧ y < cs.length)
                        · rw [if_pos e, if_pos (by omega)]
                        · rw [if_neg e, if_neg (by omega)]
                · obtain rfl : a = cs.length := by omega
                  go_wp2
                  go_roundg (cs.length - (m + 1))
                  case measure => omega
                  case rel =>
                    refine ⟨m + 1, by omega, rfl, by go_num, ?_, hB⟩
                    rw [HW.out]
                    refine hT.congr fun x y hx hy => ?_
                    unfold P.mix
                    rw [if_pos (by omega)]
            · obtain rfl : m = cs.length := by omega
              go_wp2
              go_ret
              exact ⟨g, cap, B, rfl, hT, hB⟩

end Go.Proofs.YtlamhfbdeinkkaeGreat.Sh
/- Plain facts: the reference's table against the program's; its circles; its order. -/
namespace Go.Proofs.YtlamhfbdeinkkaeGreat.Sh
open Go.RowKit
set_option linter.unusedSimpArgs false
set_option linter.unusedVariables false
set_option linter.unnecessarySimpa false

theorem war_split (l : List Cat) : ∀ (m a b : Nat), P.war (P.base l) m a b = ((decide (a = b) && decide (b < l.length)) || P.war (P.rbase l) m a b) := by
  intro m
  induction m with
  | zero =>
    intro a b
    simp only [P.war, P.base, P.rbase, P.rdone]
    cases decide (b < l.length) <;> cases decide (a = b) <;> simp
  | succ m ih =>
    intro a b
    simp only [P.war, P.step, ih]
    by_cases e1 : a = m
    · subst e1
      by_cases e2 : a = b
      · subst e2
        cases decide (a < l.length) <;> cases P.war (P.rbase l) a a a <;> simp
      · simp only [e2]
        cases decide (a < l.length) <;> cases P.war (P.rbase l) a a a <;> cases P.war (P.rbase l) a a b <;> simp
    · by_cases e2 : m = b
      · subst e2
        simp only [e1]
        cases decide (m < l.length) <;> cases P.war (P.rbase l) m m m <;> cases P.war (P.rbase l) m a m <;> simp
      · simp only [e1, e2]
        simp [Bool.or_assoc]

theorem rlast {l : List Cat} : ∀ (m : Nat) {a b : Nat}, P.war (P.rbase l) m a b = true → ∃ h, b < l.length ∧ P.edge l h b = true ∧ (a = h ∨ P.war (P.rbase l) m a h = true) := by
  intro m
  induction m with
  | zero =>
    intro a b h
    simp only [P.war, P.rbase, P.rdone, Bool.and_eq_true] at h
    exact ⟨a, by simpa using h.1, h.2, .inl rfl⟩
  | succ m ih =>
    intro a b h
    rw [P.war, step_or] at h
    rcases h with h | ⟨h1, h2⟩
    · obtain ⟨x, hx, he, h3⟩ := ih h
      exact ⟨x, hx, he, h3.imp id fun h4 => by rw [P.war, step_or]; exact .inl h4⟩
    · obtain ⟨x, hx, he, h3⟩ := ih h2
      refine ⟨x, hx, he, .inr ?_⟩
      rw [P.war, step_or]
      rcases h3 with rfl | h3
      · exact .inl h1
      · exact .inr ⟨h1, h3⟩

theorem redge {l : List Cat} {b : Nat} {h : Int} (hb : b < l.length) (hm : h ∈ (l.getD b (ByteArray.empty, [])).2) (h0 : 0 ≤ h) : P.rbase l h.toNat b = true := by
  simp only [P.rbase, P.rdone, Bool.and_eq_true]
  refine ⟨by simpa using hb, ?_⟩
  unfold P.edge
  rw [List.any_eq_true]
  exact ⟨h, hm, by simp; omega⟩

theorem getD_mem {l : List Cat} {b : Nat} (hb : b < l.length) : l.getD b (ByteArray.empty, []) ∈ l := by
  rw [List.getD_eq_getElem?_getD, List.getElem?_eq_getElem hb]
  exact List.getElem_mem hb

theorem circle_ref {l : List Cat} (hh : ∀ c ∈ l, ∀ h ∈ c.2, 0 ≤ h ∧ h < l.length) : P.circle l = P.some (fun i => P.war (P.rbase l) l.length i i) l.length := by
  rw [Bool.eq_iff_iff, circle_iff, some_iff]
  constructor
  · rintro ⟨i, hi, h, hm, hw⟩
    have hr := hh _ (getD_mem hi) h hm
    refine ⟨i, hi, ?_⟩
    have e1 : P.war (P.rbase l) l.length h.toNat i = true := war_le (m := 0) (Nat.zero_le _) (redge hi hm hr.1)
    rw [war_split, Bool.or_eq_true] at hw
    rcases hw with hw | hw
    · simp at hw
      rw [← hw.1] at e1
      exact e1
    · exact war_trans l.length (by omega) hw e1
  · rintro ⟨i, hi, hw⟩
    obtain ⟨x, _, he, h3⟩ := rlast _ hw
    have hm := edge_mem hi he
    refine ⟨i, hi, x, hm, ?_⟩
    have hr := hh _ (getD_mem hi) _ hm
    rw [Int.toNat_natCast, war_split, Bool.or_eq_true]
    rcases h3 with rfl | h3
    · left; simp; omega
    · exact .inr h3

/-- What the reference's search holds when those from k on are looked at. -/
def P.Nx (p : Nat → Bool) (k n : Nat) (X : Int) : Prop := (X = -1 ∧ ∀ j, k ≤ j → j < n → p j = false) ∨ ∃ j : Nat, X = j ∧ k ≤ j ∧ j < n ∧ p j = true ∧ ∀ i, k ≤ i → i < j → p i = false

theorem Nx.no {p : Nat → Bool} {k n : Nat} {X : Int} (h : P.Nx p (k + 1) n X) (hp : p k = false) : P.Nx p k n X := by
  rcases h with ⟨h1, h2⟩ | ⟨j, h1, h2, h3, h4, h5⟩
  · exact .inl ⟨h1, fun j hj hn => by rcases Nat.eq_or_lt_of_le hj with rfl | hj; exact hp; exact h2 j hj hn⟩
  · exact .inr ⟨j, h1, by omega, h3, h4, fun i hi hn => by rcases Nat.eq_or_lt_of_le hi with rfl | hi; exact hp; exact h5 i hi hn⟩
theorem Nx.yes {p : Nat → Bool} {k n : Nat} (hk : k < n) (hp : p k = true) : P.Nx p k n (k : Int) := .inr ⟨k, rfl, Nat.le_refl _, hk, hp, fun i hi hn => by omega⟩
theorem Nx.done {p q : Nat → Bool} {n : Nat} {X : Int} (h : P.Nx p 0 n X) (hpq : ∀ i, i < n → p i = q i) (hl : P.least q n < n) : X = P.least q n := by
  rcases h with ⟨_, h2⟩ | ⟨j, h1, _, h3, h4, h5⟩
  · have := least_yes hl
    rw [← hpq _ hl, h2 _ (Nat.zero_le _) hl] at this
    cases this
  · rw [h1, least_hit h3 (by rw [← hpq _ h3]; exact h4) (fun i hi => by rw [← hpq i (by omega)]; exact h5 i (Nat.zero_le _) hi)]

end Go.Proofs.YtlamhfbdeinkkaeGreat.Sh
/- The walk of the reference's CheckShip. -/
namespace Go.Proofs.YtlamhfbdeinkkaeGreat.Sh
open Go.RowKit
set_option linter.unusedSimpArgs false
set_option linter.unusedVariables false
set_option linter.unnecessarySimpa false

theorem CatsAt.all {w : World} {ao : Option Addr} {cap : Nat} {l : List Cat} (h : CatsAt w ao cap l) (h0 : 0 < l.length) : ∃ b off, ao = some ⟨b, off, none⟩ ∧ ∀ k (hk : k < l.length), ∃ hao hcap, w.cell? ⟨b, off + k * 2, none⟩ = some (.string l[k].1) ∧ w.cell? ⟨b, off + k * 2 + 1, none⟩ = some (.slice hao l[k].2.length hcap) ∧ IntsAt w hao hcap l[k].2 ∧ l[k].1.size ≤ maxLen := by
  obtain ⟨b, off, rfl, _, hc⟩ := h.cells h0
  refine ⟨b, off, rfl, fun k hk => ?_⟩
  obtain ⟨cs, ⟨hao, hcap, e, h1, h2⟩, _, h3⟩ := hc k hk
  subst e
  exact ⟨hao, hcap, by simpa using h3 0 _ rfl, by simpa using h3 1 _ rfl, h1, h2⟩
theorem CabsAt.all {w : World} {ao : Option Addr} {cap : Nat} {l : List Cab} (h : CabsAt w ao cap l) (h0 : 0 < l.length) : ∃ b off, ao = some ⟨b, off, none⟩ ∧ ∀ k (hk : k < l.length), w.cell? ⟨b, off + k * 4, none⟩ = some (.string l[k].1) ∧ w.cell? ⟨b, off + k * 4 + 1, none⟩ = some (.int .i64 l[k].2.1) ∧ w.cell? ⟨b, off + k * 4 + 2, none⟩ = some (.int .i64 l[k].2.2.1) ∧ w.cell? ⟨b, off + k * 4 + 3, none⟩ = some (.bool l[k].2.2.2) ∧ l[k].1.size ≤ maxLen := by
  obtain ⟨b, off, rfl, _, hc⟩ := h.cells h0
  refine ⟨b, off, rfl, fun k hk => ?_⟩
  obtain ⟨cs, ⟨e, h2⟩, _, h3⟩ := hc k hk
  subst e
  exact ⟨by simpa using h3 0 _ rfl, by simpa using h3 1 _ rfl, by simpa using h3 2 _ rfl, by simpa using h3 3 _ rfl, h2⟩

/-- The names ahead of i. -/
def P.names {β : Type} (l : List (ByteArray × β)) (i : Nat) : List ByteArray := (l.take i).map (·.1)
theorem names_succ {β : Type} {l : List (ByteArray × β)} {i : Nat} (hi : i < l.length) : P.names l (i + 1) = P.names l i ++ [l[i].1] := by
  unfold P.names
  rw [List.take_succ_eq_append_getElem hi, List.map_append]
  rfl
theorem names_has {β : Type} {l : List (ByteArray × β)} {i k : Nat} (hi : i ≤ l.length) (hk : k < i) {nm : ByteArray} (h : (l[k]'(by omega)).1 = nm) : P.hasName (P.names l i) nm = true := by
  unfold P.hasName P.names
  rw [List.any_eq_true]
  refine ⟨nm, ?_, by simp⟩
  rw [List.mem_map]
  exact ⟨l[k]'(by omega), by rw [List.mem_take_iff_getElem]; exact ⟨k, by omega, rfl⟩, h⟩
theorem names_not {β : Type} {l : List (ByteArray × β)} {i : Nat} (hi : i ≤ l.length) {nm : ByteArray} (h : ∀ k (hk : k < i), (l[k]'(by omega)).1 ≠ nm) : P.hasName (P.names l i) nm = false := by
  unfold P.hasName P.names
  rw [List.any_eq_false]
  intro x hx
  rw [List.mem_map] at hx
  obtain ⟨y, hy, rfl⟩ := hx
  rw [List.mem_take_iff_getElem] at hy
  obtain ⟨k, hk, rfl⟩ := hy
  simpa using h k (by omega)
theorem ints_has {l : List Int} {i k : Nat} (hi : i ≤ l.length) (hk : k < i) {x : Int} (h : l[k]'(by omega) = x) : P.hasInt (l.take i) x = true := by
  rw [hasInt_mem, List.mem_take_iff_getElem]
  exact ⟨k, by omega, h⟩
theorem ints_not {l : List Int} {i : Nat} (hi : i ≤ l.length) {x : Int} (h : ∀ k (hk : k < i), l[k]'(by omega) ≠ x) : P.hasInt (l.take i) x = false := by
  cases e : P.hasInt (l.take i) x with
  | false => rfl
  | true =>
    rw [hasInt_mem, List.mem_take_iff_getElem] at e
    obtain ⟨k, hk, e⟩ := e
    exact absurd e (h k (by omega))

theorem cats_at {n : Int} {l : List Cat} {i : Nat} (hi : i < l.length) : P.cats n (P.names l i) (l.drop i) = (if P.meetE (P.names l i) l[i].1 = 0 then (if P.high n [] l[i].2 = 0 then P.cats n (P.names l (i + 1)) (l.drop (i + 1)) else P.high n [] l[i].2) else P.meetE (P.names l i) l[i].1) := by
  rw [List.drop_eq_getElem_cons hi, P.cats, names_succ hi]
theorem cabs_at {n : Int} {l : List Cab} {i : Nat} (hi : i < l.length) : P.cabs n (P.names l i) (l.drop i) = (if P.meetE (P.names l i) l[i].1 = 0 then (if (P.btw l[i].2.1 0 (n - 1) && P.btw l[i].2.2.1 1 4) = true then P.cabs n (P.names l (i + 1)) (l.drop (i + 1)) else 3) else P.meetE (P.names l i) l[i].1) := by
  rw [List.drop_eq_getElem_cons hi, P.cabs, names_succ hi]
theorem high_at {n : Int} {l : List Int} {i : Nat} (hi : i < l.length) : P.high n (l.take i) (l.drop i) = (if P.btw l[i] 0 (n - 1) = true then (if P.hasInt (l.take i) l[i] = true then 6 else P.high n (l.take (i + 1)) (l.drop (i + 1))) else 3) := by
  rw [List.drop_eq_getElem_cons hi, P.high, List.take_succ_eq_append_getElem hi]

end Go.Proofs.YtlamhfbdeinkkaeGreat.Sh
