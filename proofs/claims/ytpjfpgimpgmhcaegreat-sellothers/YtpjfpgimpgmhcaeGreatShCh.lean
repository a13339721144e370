import Derived.Test.YtpjfpgimpgmhcaeGreatShBh
import Derived.Deep.Onto
import Derived.Deep.AppendLies
import Derived.Deep.OwnRows
set_option maxRecDepth 10000
/- Order: its function literals. -/
namespace Go.Proofs.YtpjfpgimpgmhcaeGreat.Sh
open Go.RowKit Go.Maps Go.WideMaps
set_option linter.unusedSimpArgs false
set_option linter.unusedVariables false

theorem ISet.below {w w' : World} {B : Nat} {l : List Int} (h : ISet w B l) (hb : Below w.heap.size w w') : ISet w' B l :=
  World.ownsMap.kept h (row := none) ⟨hb.os, hb.tape, hb.output, hb.size, fun k hk _ => hb.block k hk⟩ (by simp)

def P.bars (T : Tab) (l : List Int) (c o : Nat) : Bool := decide (o ≠ c) && (!P.hasInt l o && T o c)
def P.may (T : Tab) (n : Nat) (l : List Int) (c : Nat) : Bool := !P.hasInt l c && !P.some (P.bars T l c) n

end Go.Proofs.YtpjfpgimpgmhcaeGreat.Sh
/- The walk of Order. -/
namespace Go.Proofs.YtpjfpgimpgmhcaeGreat.Sh
open Go.RowKit Go.Maps Go.WideMaps
set_option linter.unusedSimpArgs false
set_option linter.unusedVariables false

/-- The value v is a slice of the call's own (blocks from base on) that holds the numbers l. -/
abbrev OwnI (w : World) (base : Nat) (v : Value) (l : List Int) : Prop := w.ownsRow base 3 1 v l.length (l.map (Value.int .i64))
theorem Tryz.infoInt : (Tryz.prog.info? 3).map (fun i => (i.zero, i.size, i.bytes)) = some (some (.int .i64 0), 1, 8) := by kernel_rfl

theorem OwnI.at {w : World} {base : Nat} {v : Value} {l : List Int} (h : OwnI w base v l) : ∃ ao cap, v = .slice ao l.length cap ∧ IntsAt w ao cap l := by
  rcases h.2 with ⟨rfl, h0⟩ | ⟨g, cap, cur, rfl, hb, hg, hn, hm, hs, ht⟩
  · refine ⟨none, 0, by rw [h0], by omega, by simp [maxLen], fun _ => rfl, by omega⟩
  · refine ⟨some ⟨g, 0, none⟩, cap, rfl, hn, hm, (fun h => by cases h), fun h0 => ⟨g, 0, rfl, ?_, fun i hi => ?_⟩⟩
    · rcases Nat.lt_or_ge g w.heap.size with hlt | hge
      · exact hlt
      · rw [Array.getElem?_eq_none hge] at hg; cases hg
    · refine ⟨[.int .i64 l[i]], rfl, rfl, fun j u hj => ?_⟩
      have k0 := World.ownsRow.cellAt h i (by omega)
      match j, hj with
      | 0, hj =>
        simp at hj
        subst hj
        simpa [hi] using k0

theorem OwnI.below {w w' : World} {base : Nat} {v : Value} {l : List Int} (h : OwnI w base v l) (hb : Below w.heap.size w w') : OwnI w' base v l := by
  refine ⟨h.1, ?_⟩
  rcases h.2 with h2 | ⟨g, cap, cur, hv, hg, hh, r⟩
  · exact Or.inl h2
  · refine Or.inr ⟨g, cap, cur, hv, hg, ?_, r⟩
    rw [hb.block g (Array.getElem?_eq_some_iff.1 hh).1]
    exact hh

theorem grownI_below {w W0 w' : World} {base : Nat} {v : Value} {l : List Int} (hB : Below w.heap.size w W0) (hown : OwnI W0 base v l) (hb : w.heap.size ≤ base) (hg : W0.grownBy w' v.ownBlock) : Below w.heap.size w w' :=
  hB.grown hg hB.size (fun j hj => Nat.le_trans hb (hown.lt j hj).1)

theorem news_one {w : World} (a : Int) (t : TypeId) : ∀ j u, ([.int .i64 a] : List Value)[j]? = some u → (w.alloc (.cells #[.int .i64 a] t)).cell? ((⟨w.heap.size, 0, none⟩ : Addr).add j) = some u := by
  intro j u hu
  match j, hu with
  | 0, hu => simp at hu; subst hu; simp [Addr.add]

theorem grownA {w w' : World} {o : Obj} {row : Option Nat} (h : (w.alloc o).grownBy w' row) : w.grownBy w' row :=
  ⟨h.os, h.tape, h.output, Nat.le_trans (by simp) h.size, fun k hk hr => (h.block k (by simp; omega) hr).trans (Below.heap_alloc w o k hk)⟩

/-- 'append(v, n)', n laid into a block of its own just ahead. -/
theorem wpList_append_int {ops : Array Oper} {rest : List Oper} {o : Oper} {a : Act} {Q : Exit → Act → World → Prop} {W0 : World} (hgd : o.guard = none) (s x : Operand)
    (ho : o.op = .call { callee := .builtin .append, args := #[s, x], argTypes := #[47, 47] }) (base : Nat) (v : Value) (l : List Int) (n : Int) (hs : a.eval s = v) (hown : OwnI W0 base v l)
    (hx : a.eval x = .slice (some ⟨W0.heap.size, 0, none⟩) 1 1) (hb : base ≤ W0.heap.size) (hn : l.length ≤ 1000000)
    (h : ∀ v' w', OwnI w' base v' (l ++ [n]) → W0.grownBy w' v.ownBlock → wpList Tryz.prog ops Q rest (a.put o.dst v') w') : wpList Tryz.prog ops Q (o :: rest) a (W0.alloc (.cells #[.int .i64 n] 3)) := by
  obtain ⟨i0, hi, hi0, hi1, hi2⟩ := info_parts Tryz.infoInt
  refine wpList_append_own _ hgd s x 47 ho base 3 i0 _ 1 8 Tryz.underlying47 hi hi0 hi1 hi2 rfl (by decide) v l.length (l.map (Value.int .i64)) hs (World.ownsRow.alloc hown _) ⟨W0.heap.size, 0, none⟩ 1 1 [.int .i64 n] hx rfl (news_one n _) (by simp; exact rfl) (by simp only [maxLen]; omega) (by omega) (by simp; omega) ?_
  intro v' w' h1 h2 _
  refine h v' w' ?_ (grownA h2)
  simpa [OwnI] using h1

def P.order (T : Tab) (n : Nat) : Nat → List Int → List Int
  | 0, l => l
  | f + 1, l => if P.least (P.may T n l) n < n then P.order T n f (l ++ [(P.least (P.may T n l) n : Int)]) else l
theorem least_yes {p : Nat → Bool} {n : Nat} (h : P.least p n < n) : p (P.least p n) = true := by
  unfold P.least at *
  have h2 : (List.range n).findIdx p < (List.range n).length := by simpa using h
  have := List.findIdx_getElem (w := h2)
  simpa using this
theorem pigeon : ∀ (n : Nat) (l : List Int), l.Nodup → (∀ x ∈ l, 0 ≤ x ∧ x < (n : Int)) → l.length ≤ n := by
  intro n
  induction n with
  | zero =>
    intro l _ hl
    cases l with
    | nil => simp
    | cons y l => have := hl y (by simp); omega
  | succ n ih =>
    intro l hn hl
    by_cases hm : (n : Int) ∈ l
    · have := ih (l.erase n) (hn.erase _) (fun x hx => by
        have h3 := hl x (List.mem_of_mem_erase hx)
        have h4 : x ≠ n := by
          intro e
          rw [e] at hx
          exact hn.not_mem_erase hx
        omega)
      rw [List.length_erase_of_mem hm] at this
      omega
    · have := ih l hn (fun x hx => by
        have h3 := hl x hx
        have h4 : x ≠ n := fun e => hm (e ▸ hx)
        omega)
      omega
end Go.Proofs.YtpjfpgimpgmhcaeGreat.Sh
/- Walks of SameInts, vessel, shipBegun. -/
namespace Go.Proofs.YtpjfpgimpgmhcaeGreat.Sh
open Go.RowKit Go.Maps Go.WideMaps
set_option linter.unusedSimpArgs false
set_option linter.unusedVariables false

theorem drop_eqI {a b : List Int} {s t : Int} {k : Nat} (ha : a.drop k = s :: a.drop (k + 1)) (hb : b.drop k = t :: b.drop (k + 1)) : a.drop k = b.drop k ↔ s = t ∧ a.drop (k + 1) = b.drop (k + 1) := by
  rw [ha, hb, List.cons.injEq]

set_option maxHeartbeats 1000000 in
theorem sameInts_any (ao bo : Option Addr) (ca cb : Nat) (a b : List Int) (w : World) (ha : IntsAt w ao ca a) (hb : IntsAt w bo cb b) :
    Calls Tryz.prog 34 #[.slice ao a.length ca, .slice bo b.length cb] w fun e w' => e = .returned (.bool (decide (a = b))) ∧ Below w.heap.size w w' := by
  have hle := ha.le
  have hmx := ha.max
  have hle' := hb.le
  have hmx' := hb.max
  unfold maxLen at hmx hmx'
  by_cases hlen : a.length = b.length
  · have HL : Aside (a.length = b.length) := hlen
    have hne : ((a.length : Int) != (b.length : Int)) = false := by simp [hlen]
    go_enter Tryz.func34, Tryz.ntmps34
    clear hlen
    go_wp2
    go_loopg [5] a.length (fun g i wr => ∃ (k : Nat), k ≤ a.length ∧ g = a.length - k ∧ i = .int .i64 k ∧ (a.drop k = b.drop k ↔ a = b) ∧ Below w.heap.size w wr)
    case atStart => exact ⟨0, Nat.zero_le _, rfl, rfl, Iff.rfl, Below.refl _ _⟩
    case round =>
      obtain ⟨k, hk, rfl, rfl, hP, hB⟩ := hrel
      have hBs := hB.size
      have HP : Aside (a.drop k = b.drop k ↔ a = b) := hP
      clear hP
      by_cases hlt : k < a.length
      · have hlt' : k < b.length := by have := HL.out; omega
        obtain ⟨b1, o1, f, rfl, hbw, hd, hc0⟩ := ha.get hB k hlt
        obtain ⟨b2, o2, f', rfl, hbw', hd', hc0'⟩ := hb.get hB k hlt'
        have HE : Aside (a.drop k = b.drop k ↔ f = f' ∧ a.drop (k + 1) = b.drop (k + 1)) := drop_eqI hd hd'
        clear hd hd'
        have hi1 : (k : Int) < (a.length : Int) := by omega
        have hi2 : (k : Int) < (b.length : Int) := by omega
        have hi3 : (0 : Int) ≤ (k : Int) := by omega
        by_cases e1 : f = f'
        · subst e1
          have HQ : Aside (a.drop (k + 1) = b.drop (k + 1) ↔ a = b) := by show _ ↔ _; rw [← HP.out, HE.out]; simp
          clear HE HP
          go_wp2
          go_quiet (fail)
          go_wp2
          go_roundg (a.length - (k + 1))
          case measure => omega
          case rel => exact ⟨k + 1, by omega, rfl, by go_num, HQ.out, below_drewN hB _⟩
        · have e1' : (f != f') = true := by simpa using e1
          have HN : Aside (decide (a = b) = false) := by
            rw [decide_eq_false_iff_not]; intro h; exact e1 (HE.out.1 (HP.out.2 h)).1
          clear HE HP
          go_wp2
          go_quiet (fail)
          go_wp2
          go_ret
          exact ⟨ret_bool HN.out.symm, below_drewN hB _⟩
      · have : k = a.length := by omega
        subst this
        go_wp2
        go_ret
        have hP := HP.out
        refine ⟨ret_bool ?_, hB⟩
        rw [List.drop_of_length_le (Nat.le_refl _), List.drop_of_length_le (by rw [HL.out]; exact Nat.le_refl _)] at hP
        simp [hP.1 rfl]
  · have hne : ((a.length : Int) != (b.length : Int)) = true := by rw [bne_iff_ne]; omega
    go_enter Tryz.func34, Tryz.ntmps34
    go_wp2
    go_ret
    exact ⟨ret_bool (by rw [eq_comm, decide_eq_false_iff_not]; intro h; exact hlen (by rw [h])), Below.refl _ _⟩

def vcats : List Cat := [(⟨#[73, 78]⟩, [1]), (⟨#[79, 85, 84]⟩, [2]), (⟨#[83, 85, 73, 84, 69]⟩, [])]
def vcabs : List Cab := [(⟨#[65, 49]⟩, 0, 2, false), (⟨#[66, 49]⟩, 1, 4, true), (⟨#[67, 49]⟩, 2, 2, false)]

def vesselObjs (n : Nat) : List Obj := [.cells #[.int .i64 3, .int .i64 6, .slice (some ⟨n + 1 + 1 + 1, 0, none⟩) 3 3, .slice (some ⟨n + 1 + 1 + 1 + 1, 0, none⟩) 3 3] 25, .cells #[.int .i64 1] 3, .cells #[.int .i64 2] 3,
  .cells #[.string ⟨#[73, 78]⟩, .slice (some ⟨n + 1, 0, none⟩) 1 1, .string ⟨#[79, 85, 84]⟩, .slice (some ⟨n + 1 + 1, 0, none⟩) 1 1, .string ⟨#[83, 85, 73, 84, 69]⟩, .slice none 0 0] 124,
  .cells #[.string ⟨#[65, 49]⟩, .int .i64 0, .int .i64 2, .bool false, .string ⟨#[66, 49]⟩, .int .i64 1, .int .i64 4, .bool true, .string ⟨#[67, 49]⟩, .int .i64 2, .int .i64 2, .bool false] 118]

end Go.Proofs.YtpjfpgimpgmhcaeGreat.Sh
/- Plain facts on who serves whom, and on the order of categories. -/
namespace Go.Proofs.YtpjfpgimpgmhcaeGreat.Sh
set_option linter.unusedSimpArgs false
set_option linter.unusedVariables false

/-! The order. -/

theorem sub_len : ∀ (A L : List Int), A.Nodup → (∀ x ∈ A, x ∈ L) → A.length ≤ L.length := by
  intro A
  induction A with
  | nil => intro L _ _; simp
  | cons a A ih =>
    intro L hn hs
    have ha := hs a (by simp)
    have h2 := List.nodup_cons.1 hn
    have := ih (L.erase a) h2.2 (fun x hx => by
      have hx2 := hs x (by simp [hx])
      have hne : x ≠ a := fun e => h2.1 (e ▸ hx)
      exact (List.mem_erase_of_ne hne).2 hx2)
    rw [List.length_erase_of_mem ha] at this
    have := List.length_pos_of_mem ha
    simp
    omega

structure P.Ordered (T : Tab) (n : Nat) (l : List Int) : Prop where
  nodup : l.Nodup
  bound : ∀ x ∈ l, 0 ≤ x ∧ x < (n : Int)
  apart : l.Pairwise (fun x y => T y.toNat x.toNat = false)
  shut : ∀ x ∈ l, ∀ o : Nat, o < n → ¬ (o : Int) ∈ l → T o x.toNat = false

theorem Ordered.nil (T : Tab) (n : Nat) : P.Ordered T n [] := ⟨List.nodup_nil, by simp, by simp, by simp⟩
end Go.Proofs.YtpjfpgimpgmhcaeGreat.Sh
set_option maxRecDepth 10000
/- The walk of the reference's isName. -/
namespace Go.Proofs.YtpjfpgimpgmhcaeGreat.Sh
open Go.RowKit
set_option linter.unusedSimpArgs false
set_option linter.unusedVariables false

end Go.Proofs.YtpjfpgimpgmhcaeGreat.Sh
/- The reference's table (a slice of rows that the call makes): how it lies; the walk of ServeTable. -/
namespace Go.Proofs.YtpjfpgimpgmhcaeGreat.Sh
open Go.RowKit
set_option linter.unusedSimpArgs false
set_option linter.unusedVariables false
set_option linter.unnecessarySimpa false

/-- Behind ⟨g, 0⟩ lie n rows; row i lies in block B i, and holds T i. -/
structure TblAt (w : World) (base n g : Nat) (B : Nat → Nat) (T : Tab) : Prop where
  lo : base ≤ g
  rlo : ∀ i, i < n → base ≤ B i ∧ B i ≠ g
  inj : ∀ i j, i < n → j < n → B i = B j → i = j
  out : ∀ i, i < n → w.cell? ⟨g, i, none⟩ = some (.slice (some ⟨B i, 0, none⟩) n n)
  row : ∀ i, i < n → w.rowIs (B i) 4 n (fun j => .bool (T i j))

section
variable {w w' : World} {base n g : Nat} {B : Nat → Nat} {T T' : Tab}
theorem TblAt.get (h : TblAt w base n g B T) {i j : Nat} (hi : i < n) (hj : j < n) : w.cell? ⟨B i, j, none⟩ = some (.bool (T i j)) := (h.row i hi).cell hj
theorem TblAt.frozen (h : TblAt w base n g B T) {i : Nat} (hi : i < n) (j : Nat) : w.frozen? ⟨B i, j, none⟩ = false := (h.row i hi).frozen j
theorem TblAt.congr (h : TblAt w base n g B T) (e : ∀ x y, x < n → y < n → T x y = T' x y) : TblAt w base n g B T' :=
  ⟨h.lo, h.rlo, h.inj, h.out, fun i hi => (h.row i hi).congr fun j hj => by rw [e i j hi hj]⟩
theorem TblAt.below (h : TblAt w base n g B T) (hb : Below w.heap.size w w') : TblAt w' base n g B T :=
  ⟨h.lo, h.rlo, h.inj, fun i hi => cellIn hb (h.out i hi), fun i hi => (h.row i hi).of_block (hb.block _ (h.row i hi).lt)⟩
theorem TblAt.put (h : TblAt w base n g B T) {i j : Nat} {v : Bool} (hi : i < n) (hj : j < n) (h1 : T' i j = v) (h2 : ∀ x y, x < n → y < n → ¬ (x = i ∧ y = j) → T' x y = T x y) : TblAt (w.setCell ⟨B i, j, none⟩ (.bool v)) base n g B T' := by
  refine ⟨h.lo, h.rlo, h.inj, fun k hk => ?_, fun k hk => ?_⟩
  · rw [World.cell?_of_block (Below.heap_setCell w ⟨B i, j, none⟩ (.bool v) g (fun e => (h.rlo i hi).2 e.symm))]
    exact h.out k hk
  · by_cases e : k = i
    · subst e
      refine World.rowIs.congr (World.rowIs.set (h.row k hk) j (.bool v)) fun y hy => ?_
      by_cases e2 : y = j
      · rw [if_pos e2, e2, h1]
      · rw [if_neg e2, h2 k y hk hy (by omega)]
    · refine World.rowIs.congr (World.rowIs.setOther (h.row k hk) (fun e2 => e (h.inj k i hk hi e2)) _) fun y hy => ?_
      rw [h2 k y hk hy (by omega)]
end

/-- The table in the making: k rows of n, all false. -/
structure TblUp (w : World) (base n k : Nat) (v : Value) (B : Nat → Nat) : Prop where
  own : w.ownsRow base 138 1 v k ((List.range k).map fun i => .slice (some ⟨B i, 0, none⟩) n n)
  rlo : ∀ i, i < k → base ≤ B i ∧ v.ownBlock ≠ some (B i)
  inj : ∀ i j, i < k → j < k → B i = B j → i = j
  row : ∀ i, i < k → w.rowIs (B i) 4 n (fun _ => .bool false)

theorem TblUp.done {w : World} {base n : Nat} {v : Value} {B : Nat → Nat} (h : TblUp w base n n v B) (hn : 0 < n) : ∃ g cap, v = .slice (some ⟨g, 0, none⟩) n cap ∧ TblAt w base n g B (fun _ _ => false) := by
  obtain ⟨g, cap, rfl, hb, _⟩ := h.own.form hn
  refine ⟨g, cap, rfl, hb, fun i hi => ⟨(h.rlo i hi).1, fun e => (h.rlo i hi).2 (by rw [e]; rfl)⟩, h.inj, fun i hi => ?_, h.row⟩
  have := h.own.cells (g := g) rfl i (.slice (some ⟨B i, 0, none⟩) n n) (by simp [hi])
  rw [Go.WideShapes.add_plain] at this
  simpa using this

theorem row_of_made {w : World} {base b n : Nat} {t : TypeId} {z : Value} (h : w.ownsRow base t 1 (.slice (some ⟨b, 0, none⟩) n n) n (madeCells #[z] (n * 1)).toList) : w.rowIs b t n (fun _ => z) := by
  rcases h.2 with ⟨h1, _⟩ | ⟨g, cap, cur, h1, _, h3, _, _, h6, h7⟩
  · cases h1
  · simp only [Value.slice.injEq, Option.some.injEq, Addr.mk.injEq] at h1
    obtain ⟨⟨rfl, _⟩, _, rfl⟩ := h1
    refine ⟨cur, h3, by simpa using h6, fun i hi => ?_⟩
    have : (cur.toList.take (n * 1))[i]? = (madeCells #[z] (n * 1)).toList[i]? := by rw [h7]
    rw [List.getElem?_take, if_pos (by omega), Array.getElem?_toList, Array.getElem?_toList] at this
    rw [this]
    simp [madeCells, hi, Nat.mod_one]

/-- One row more. wr: ahead of the round; w1: the row is made; W: it lies in a block of its own, for the append; w2: behind it. -/
theorem TblUp.more {wr w1 w2 : World} {base n k g cap : Nat} {v : Value} {B : Nat → Nat} {o : Obj} (h : TblUp wr base n k v B) (hbase : base ≤ wr.heap.size) (h1 : wr.grownBy w1 none) (hrow : w1.rowIs wr.heap.size 4 n (fun _ => .bool false))
    (hown : w2.ownsRow base 138 1 (.slice (some ⟨g, 0, none⟩) (k + 1) cap) (k + 1) (((List.range k).map fun i => Value.slice (some ⟨B i, 0, none⟩) n n) ++ [.slice (some ⟨wr.heap.size, 0, none⟩) n n]))
    (hg : (w1.alloc o).grownBy w2 v.ownBlock) (hat : v.ownBlock = some g ∨ g = w1.heap.size + 1) : TblUp w2 base n (k + 1) (.slice (some ⟨g, 0, none⟩) (k + 1) cap) (fun i => if i = k then wr.heap.size else B i) := by
  have hlt := hrow.lt
  have hnew : v.ownBlock ≠ some wr.heap.size := fun e => by have := (h.own.lt _ e).2; omega
  have keep : ∀ b f, w1.rowIs b 4 n f → v.ownBlock ≠ some b → w2.rowIs b 4 n f := fun b f hb hne => hb.of_block ((hg.block b (by have := hb.lt; simp; omega) (Ne.symm hne)).trans (Below.heap_alloc w1 o b hb.lt))
  have old : ∀ i, i < k → w1.rowIs (B i) 4 n (fun _ => .bool false) := fun i hi => (h.row i hi).of_block (h1.block _ (h.row i hi).lt (by simp))
  refine ⟨?_, fun i hi => ?_, fun i j hi hj e => ?_, fun i hi => ?_⟩
  · have e : ((List.range (k + 1)).map fun i => Value.slice (some ⟨(fun i => if i = k then wr.heap.size else B i) i, 0, none⟩) n n) = ((List.range k).map fun i => Value.slice (some ⟨B i, 0, none⟩) n n) ++ [.slice (some ⟨wr.heap.size, 0, none⟩) n n] := by
      rw [List.range_succ, List.map_append]
      congr 1
      · refine List.map_congr_left fun i hi => ?_
        have : i ≠ k := by have := List.mem_range.1 hi; omega
        simp [this]
      · simp
    rw [e]
    exact hown
  · simp only [Value.ownBlock]
    by_cases e : i = k
    · rw [if_pos e]
      refine ⟨hbase, fun e2 => ?_⟩
      simp only [Option.some.injEq] at e2
      rcases hat with h2 | h2
      · exact hnew (by rw [h2, e2])
      · omega
    · rw [if_neg e]
      refine ⟨(h.rlo i (by omega)).1, fun e2 => ?_⟩
      simp only [Option.some.injEq] at e2
      rcases hat with h2 | h2
      · exact (h.rlo i (by omega)).2 (by rw [h2, e2])
      · have := (old i (by omega)).lt; omega
  · have ltB : ∀ i, i < k → B i < wr.heap.size := fun i hi => (h.row i hi).lt
    by_cases ei : i = k <;> by_cases ej : j = k
    · omega
    · rw [if_pos ei, if_neg ej] at e; have := ltB j (by omega); omega
    · rw [if_neg ei, if_pos ej] at e; have := ltB i (by omega); omega
    · rw [if_neg ei, if_neg ej] at e; exact h.inj i j (by omega) (by omega) e
  · by_cases e : i = k
    · rw [if_pos e]; exact keep _ _ hrow hnew
    · rw [if_neg e]; exact keep _ _ (old i (by omega)) (h.rlo i (by omega)).2

theorem Tryz.infoRow : (Tryz.prog.info? 138).map (fun i => (i.zero, i.size, i.bytes)) = some (some (.slice none 0 0), 1, 24) := by kernel_rfl
end Go.Proofs.YtpjfpgimpgmhcaeGreat.Sh
/- The walk of the reference's ServeTable. -/
namespace Go.Proofs.YtpjfpgimpgmhcaeGreat.Sh
open Go.RowKit
set_option linter.unusedSimpArgs false
set_option linter.unusedVariables false
set_option linter.unnecessarySimpa false

end Go.Proofs.YtpjfpgimpgmhcaeGreat.Sh
/- Plain facts: the reference's table against the program's; its circles; its order. -/
namespace Go.Proofs.YtpjfpgimpgmhcaeGreat.Sh
open Go.RowKit
set_option linter.unusedSimpArgs false
set_option linter.unusedVariables false
set_option linter.unnecessarySimpa false

/-- What the reference's search holds when those from k on are looked at. -/
def P.Nx (p : Nat → Bool) (k n : Nat) (X : Int) : Prop := (X = -1 ∧ ∀ j, k ≤ j → j < n → p j = false) ∨ ∃ j : Nat, X = j ∧ k ≤ j ∧ j < n ∧ p j = true ∧ ∀ i, k ≤ i → i < j → p i = false

theorem Nx.no {p : Nat → Bool} {k n : Nat} {X : Int} (h : P.Nx p (k + 1) n X) (hp : p k = false) : P.Nx p k n X := by
  rcases h with ⟨h1, h2⟩ | ⟨j, h1, h2, h3, h4, h5⟩
  · exact .inl ⟨h1, fun j hj hn => by rcases Nat.eq_or_lt_of_le hj with rfl | hj; exact hp; exact h2 j hj hn⟩
  · exact .inr ⟨j, h1, by omega, h3, h4, fun i hi hn => by rcases Nat.eq_or_lt_of_le hi with rfl | hi; exact hp; exact h5 i hi hn⟩
theorem Nx.yes {p : Nat → Bool} {k n : Nat} (hk : k < n) (hp : p k = true) : P.Nx p k n (k : Int) := .inr ⟨k, rfl, Nat.le_refl _, hk, hp, fun i hi hn => by omega⟩
theorem Nx.done {p q : Nat → Bool} {n : Nat} {X : Int} (h : P.Nx p 0 n X) (hpq : ∀ i, i < n → p i = q i) (hl : P.least q n < n) : X = P.least q n := by
  rcases h with ⟨_, h2⟩ | ⟨j, h1, _, h3, h4, h5⟩
  · have := least_yes hl
    rw [← hpq _ hl, h2 _ (Nat.zero_le _) hl] at this
    cases this
  · rw [h1, least_hit h3 (by rw [← hpq _ h3]; exact h4) (fun i hi => by rw [← hpq i (by omega)]; exact h5 i (Nat.zero_le _) hi)]

end Go.Proofs.YtpjfpgimpgmhcaeGreat.Sh
/- The walk of the reference's CheckShip. -/
namespace Go.Proofs.YtpjfpgimpgmhcaeGreat.Sh
open Go.RowKit
set_option linter.unusedSimpArgs false
set_option linter.unusedVariables false
set_option linter.unnecessarySimpa false

theorem CatsAt.all {w : World} {ao : Option Addr} {cap : Nat} {l : List Cat} (h : CatsAt w ao cap l) (h0 : 0 < l.length) : ∃ b off, ao = some ⟨b, off, none⟩ ∧ ∀ k (hk : k < l.length), ∃ hao hcap, w.cell? ⟨b, off + k * 2, none⟩ = some (.string l[k].1) ∧ w.cell? ⟨b, off + k * 2 + 1, none⟩ = some (.slice hao l[k].2.length hcap) ∧ IntsAt w hao hcap l[k].2 ∧ l[k].1.size ≤ maxLen := by
  obtain ⟨b, off, rfl, _, hc⟩ := h.cells h0
  refine ⟨b, off, rfl, fun k hk => ?_⟩
  obtain ⟨cs, ⟨hao, hcap, e, h1, h2⟩, _, h3⟩ := hc k hk
  subst e
  exact ⟨hao, hcap, by simpa using h3 0 _ rfl, by simpa using h3 1 _ rfl, h1, h2⟩
theorem CabsAt.all {w : World} {ao : Option Addr} {cap : Nat} {l : List Cab} (h : CabsAt w ao cap l) (h0 : 0 < l.length) : ∃ b off, ao = some ⟨b, off, none⟩ ∧ ∀ k (hk : k < l.length), w.cell? ⟨b, off + k * 4, none⟩ = some (.string l[k].1) ∧ w.cell? ⟨b, off + k * 4 + 1, none⟩ = some (.int .i64 l[k].2.1) ∧ w.cell? ⟨b, off + k * 4 + 2, none⟩ = some (.int .i64 l[k].2.2.1) ∧ w.cell? ⟨b, off + k * 4 + 3, none⟩ = some (.bool l[k].2.2.2) ∧ l[k].1.size ≤ maxLen := by
  obtain ⟨b, off, rfl, _, hc⟩ := h.cells h0
  refine ⟨b, off, rfl, fun k hk => ?_⟩
  obtain ⟨cs, ⟨e, h2⟩, _, h3⟩ := hc k hk
  subst e
  exact ⟨by simpa using h3 0 _ rfl, by simpa using h3 1 _ rfl, by simpa using h3 2 _ rfl, by simpa using h3 3 _ rfl, h2⟩

/-- The names ahead of i. -/
def P.names {β : Type} (l : List (ByteArray × β)) (i : Nat) : List ByteArray := (l.take i).map (·.1)
end Go.Proofs.YtpjfpgimpgmhcaeGreat.Sh
set_option maxRecDepth 10000
/- The walk of the reference's CheckShip. -/
namespace Go.Proofs.YtpjfpgimpgmhcaeGreat.Sh
open Go.RowKit
set_option linter.unusedSimpArgs false
set_option linter.unusedVariables false
set_option linter.unnecessarySimpa false

end Go.Proofs.YtpjfpgimpgmhcaeGreat.Sh
/- The walk of the reference's OrderOf. -/
namespace Go.Proofs.YtpjfpgimpgmhcaeGreat.Sh
open Go.RowKit
set_option linter.unusedSimpArgs false
set_option linter.unusedVariables false
set_option linter.unnecessarySimpa false

theorem TblAt.blocks {w w' : World} {base n g : Nat} {B : Nat → Nat} {T : Tab} (h : TblAt w base n g B T) (hg : w'.heap[g]? = w.heap[g]?) (hb : ∀ i, i < n → w'.heap[B i]? = w.heap[B i]?) : TblAt w' base n g B T :=
  ⟨h.lo, h.rlo, h.inj, fun i hi => (World.cell?_of_block (a := ⟨g, i, none⟩) hg).trans (h.out i hi), fun i hi => (h.row i hi).of_block (hb i hi)⟩

end Go.Proofs.YtpjfpgimpgmhcaeGreat.Sh
/- The walks of the reference's CheckShip (whatever its sizes) and DoesServe, and of the law ShipTells. -/
namespace Go.Proofs.YtpjfpgimpgmhcaeGreat.Sh
open Go.RowKit
set_option linter.unusedSimpArgs false
set_option linter.unusedVariables false
set_option linter.unnecessarySimpa false

end Go.Proofs.YtpjfpgimpgmhcaeGreat.Sh
