import Derived.Test.YtlamhfbdeinkkaeGreatShBo
import Derived.Deep.Onto
import Derived.Deep.AppendLies
import Derived.Deep.OwnRows
set_option maxRecDepth 10000
/- Order: its function literals. -/
namespace Go.Proofs.YtlamhfbdeinkkaeGreat.Sh
open Go.RowKit Go.Maps Go.WideMaps
set_option linter.unusedSimpArgs false
set_option linter.unusedVariables false

theorem ISet.below {w w' : World} {B : Nat} {l : List Int} (h : ISet w B l) (hb : Below w.heap.size w w') : ISet w' B l :=
  World.ownsMap.kept h (row := none) ⟨hb.os, hb.tape, hb.output, hb.size, fun k hk _ => hb.block k hk⟩ (by simp)

def P.bars (T : Tab) (l : List Int) (c o : Nat) : Bool := decide (o ≠ c) && (!P.hasInt l o && T o c)
def P.may (T : Tab) (n : Nat) (l : List Int) (c : Nat) : Bool := !P.hasInt l c && !P.some (P.bars T l c) n

end Go.Proofs.YtlamhfbdeinkkaeGreat.Sh
/- The walk of Order. -/
namespace Go.Proofs.YtlamhfbdeinkkaeGreat.Sh
open Go.RowKit Go.Maps Go.WideMaps
set_option linter.unusedSimpArgs false
set_option linter.unusedVariables false

/-- The value v is a slice of the call's own (blocks from base on) that holds the numbers l. -/
abbrev OwnI (w : World) (base : Nat) (v : Value) (l : List Int) : Prop := w.ownsRow base 3 1 v l.length (l.map (Value.int .i64))
theorem Tryz.infoInt : (Tryz.prog.info? 3).map (fun i => (i.zero, i.size, i.bytes)) = some (some (.int .i64 0), 1, 8) := by kernel_rfl

theorem OwnI.at {w : World} {base : Nat} {v : Value} {l : List Int} (h : OwnI w base v l) : ∃ ao cap, v = .slice ao l.length cap ∧ IntsAt w ao cap l := by
  rcases h.2 with ⟨rfl, h0⟩ | ⟨g, cap, cur, rfl, hb, hg, hn, hm, hs, ht⟩
  · refine ⟨none, 0, by rw [h0], by omega, by simp [maxLen], fun _ => rfl, by omega⟩
  · refine ⟨some ⟨g, 0, none⟩, cap, rfl, hn, hm, (fun h => by cases h), fun h0 => ⟨g, 0, rfl, ?_, fun i hi => ?_⟩⟩
    · rcases Nat.lt_or_ge g w.heap.size with hlt | hge
      · exact hlt
      · rw [Array.getElem?_eq_none hge] at hg; cases hg
    · refine ⟨[.int .i64 l[i]], rfl, rfl, fun j u hj => ?_⟩
      have k0 := World.ownsRow.cellAt h i (by omega)
      match j, hj with
      | 0, hj =>
        simp at hj
        subst hj
        simpa [hi] using k0

theorem OwnI.below {w w' : World} {base : Nat} {v : Value} {l : List Int} (h : OwnI w base v l) (hb : Below w.heap.size w w') : OwnI w' base v l := by
  refine ⟨h.1, ?_⟩
  rcases h.2 with h2 | ⟨g, cap, cur, hv, hg, hh, r⟩
  · exact Or.inl h2
  · refine Or.inr ⟨g, cap, cur, hv, hg, ?_, r⟩
    rw [hb.block g (Array.getElem?_eq_some_iff.1 hh).1]
    exact hh

theorem grownI_below {w W0 w' : World} {base : Nat} {v : Value} {l : List Int} (hB : Below w.heap.size w W0) (hown : OwnI W0 base v l) (hb : w.heap.size ≤ base) (hg : W0.grownBy w' v.ownBlock) : Below w.heap.size w w' :=
  hB.grown hg hB.size (fun j hj => Nat.le_trans hb (hown.lt j hj).1)

theorem news_one {w : World} (a : Int) (t : TypeId) : ∀ j u, ([.int .i64 a] : List Value)[j]? = some u → (w.alloc (.cells #[.int .i64 a] t)).cell? ((⟨w.heap.size, 0, none⟩ : Addr).add j) = some u := by
  intro j u hu
  match j, hu with
  | 0, hu => simp at hu; subst hu; simp [Addr.add]

theorem grownA {w w' : World} {o : Obj} {row : Option Nat} (h : (w.alloc o).grownBy w' row) : w.grownBy w' row :=
  ⟨h.os, h.tape, h.output, Nat.le_trans (by simp) h.size, fun k hk hr => (h.block k (by simp; omega) hr).trans (Below.heap_alloc w o k hk)⟩

/-- 'append(v, n)', n laid into a block of its own just ahead. -/
theorem wpList_append_int {ops : Array Oper} {rest : List Oper} {o : Oper} {a : Act} {Q : Exit → Act → World → Prop} {W0 : World} (hgd : o.guard = none) (s x : Operand)
    (ho : o.op = .call { callee := .builtin .append, args := #[s, x], argTypes := #[47, 47] }) (base : Nat) (v : Value) (l : List Int) (n : Int) (hs : a.eval s = v) (hown : OwnI W0 base v l)
    (hx : a.eval x = .slice (some ⟨W0.heap.size, 0, none⟩) 1 1) (hb : base ≤ W0.heap.size) (hn : l.length ≤ 1000000)
    (h : ∀ v' w', OwnI w' base v' (l ++ [n]) → W0.grownBy w' v.ownBlock → wpList Tryz.prog ops Q rest (a.put o.dst v') w') : wpList Tryz.prog ops Q (o :: rest) a (W0.alloc (.cells #[.int .i64 n] 3)) := by
  obtain ⟨i0, hi, hi0, hi1, hi2⟩ := info_parts Tryz.infoInt
  refine wpList_append_own _ hgd s x 47 ho base 3 i0 _ 1 8 Tryz.underlying47 hi hi0 hi1 hi2 rfl (by decide) v l.length (l.map (Value.int .i64)) hs (World.ownsRow.alloc hown _) ⟨W0.heap.size, 0, none⟩ 1 1 [.int .i64 n] hx rfl (news_one n _) (by simp; exact rfl) (by simp only [maxLen]; omega) (by omega) (by simp; omega) ?_
  intro v' w' h1 h2 _
  refine h v' w' ?_ (grownA h2)
  simpa [OwnI] using h1

def P.order (T : Tab) (n : Nat) : Nat → List Int → List Int
  | 0, l => l
  | f + 1, l => if P.least (P.may T n l) n < n then P.order T n f (l ++ [(P.least (P.may T n l) n : Int)]) else l
def P.orderL (legs souls : Int) (cs : List Cat) (bs : List Cab) : List Int := if P.shipE legs souls cs bs = 0 then P.order (P.war (P.base cs) cs.length) cs.length cs.length [] else []

theorem least_yes {p : Nat → Bool} {n : Nat} (h : P.least p n < n) : p (P.least p n) = true := by
  unfold P.least at *
  have h2 : (List.range n).findIdx p < (List.range n).length := by simpa using h
  have := List.findIdx_getElem (w := h2)
  simpa using this
theorem pigeon : ∀ (n : Nat) (l : List Int), l.Nodup → (∀ x ∈ l, 0 ≤ x ∧ x < (n : Int)) → l.length ≤ n := by
  intro n
  induction n with
  | zero =>
    intro l _ hl
    cases l with
    | nil => simp
    | cons y l => have := hl y (by simp); omega
  | succ n ih =>
    intro l hn hl
    by_cases hm : (n : Int) ∈ l
    · have := ih (l.erase n) (hn.erase _) (fun x hx => by
        have h3 := hl x (List.mem_of_mem_erase hx)
        have h4 : x ≠ n := by
          intro e
          rw [e] at hx
          exact hn.not_mem_erase hx
        omega)
      rw [List.length_erase_of_mem hm] at this
      omega
    · have := ih l hn (fun x hx => by
        have h3 := hl x hx
        have h4 : x ≠ n := fun e => hm (e ▸ hx)
        omega)
      omega
theorem hasInt_mem (l : List Int) (n : Int) : P.hasInt l n = true ↔ n ∈ l := by
  unfold P.hasInt
  rw [List.any_eq_true]
  constructor
  · rintro ⟨x, hx, h⟩; simp at h; exact h ▸ hx
  · intro h; exact ⟨n, h, by simp⟩

theorem below_none {w w' : World} (h : w.grownBy w' none) : Below w.heap.size w w' := ⟨h.os, h.tape, h.output, h.size, fun k hk => h.block k hk (by simp)⟩

end Go.Proofs.YtlamhfbdeinkkaeGreat.Sh
/- Walks of SameInts, vessel, shipBegun. -/
namespace Go.Proofs.YtlamhfbdeinkkaeGreat.Sh
open Go.RowKit Go.Maps Go.WideMaps
set_option linter.unusedSimpArgs false
set_option linter.unusedVariables false

theorem drop_eqI {a b : List Int} {s t : Int} {k : Nat} (ha : a.drop k = s :: a.drop (k + 1)) (hb : b.drop k = t :: b.drop (k + 1)) : a.drop k = b.drop k ↔ s = t ∧ a.drop (k + 1) = b.drop (k + 1) := by
  rw [ha, hb, List.cons.injEq]

set_option maxHeartbeats 1000000 in
theorem sameInts_any (ao bo : Option Addr) (ca cb : Nat) (a b : List Int) (w : World) (ha : IntsAt w ao ca a) (hb : IntsAt w bo cb b) :
    Calls Tryz.prog 39 #[.slice ao a.length ca, .slice bo b.length cb] w fun e w' => e = .returned (.bool (decide (a = b))) ∧ Below w.heap.size w w' := by
  have hle := ha.le
  have hmx := ha.max
  have hle' := hb.le
  have hmx' := hb.max
  unfold maxLen at hmx hmx'
  by_cases hlen : a.length = b.length
  · have HL : Aside (a.length = b.length) := hlen
    have hne : ((a.length : Int) != (b.length : Int)) = false := by simp [hlen]
    go_enter Tryz.func39, Tryz.ntmps39
    clear hlen
    go_wp2
    go_loopg [5] a.length (fun g i wr => ∃ (k : Nat), k ≤ a.length ∧ g = a.length - k ∧ i = .int .i64 k ∧ (a.drop k = b.drop k ↔ a = b) ∧ Below w.heap.size w wr)
    case atStart => exact ⟨0, Nat.zero_le _, rfl, rfl, Iff.rfl, Below.refl _ _⟩
    case round =>
      obtain ⟨k, hk, rfl, rfl, hP, hB⟩ := hrel
      have hBs := hB.size
      have HP : Aside (a.drop k = b.drop k ↔ a = b) := hP
      clear hP
      by_cases hlt : k < a.length
      · have hlt' : k < b.length := by have := HL.out; omega
        obtain ⟨b1, o1, f, rfl, hbw, hd, hc0⟩ := ha.get hB k hlt
        obtain ⟨b2, o2, f', rfl, hbw', hd', hc0'⟩ := hb.get hB k hlt'
        have HE : Aside (a.drop k = b.drop k ↔ f = f' ∧ a.drop (k + 1) = b.drop (k + 1)) := drop_eqI hd hd'
        clear hd hd'
        have hi1 : (k : Int) < (a.length : Int) := by omega
        have hi2 : (k : Int) < (b.length : Int) := by omega
        have hi3 : (0 : Int) ≤ (k : Int) := by omega
        by_cases e1 : f = f'
        · subst e1
          have HQ : Aside (a.drop (k + 1) = b.drop (k + 1) ↔ a = b) := by show _ ↔ _; rw [← HP.out, HE.out]; simp
          clear HE HP
          go_wp2
          go_quiet (fail)
          go_wp2
          go_roundg (a.length - (k + 1))
          case measure => omega
          case rel => exact ⟨k + 1, by omega, rfl, by go_num, HQ.out, below_drewN hB _⟩
        · have e1' : (f != f') = true := by simpa using e1
          have HN : Aside (decide (a = b) = false) := by
            rw [decide_eq_false_iff_not]; intro h; exact e1 (HE.out.1 (HP.out.2 h)).1
          clear HE HP
          go_wp2
          go_quiet (fail)
          go_wp2
          go_ret
          exact ⟨ret_bool HN.out.symm, below_drewN hB _⟩
      · have : k = a.length := by omega
        subst this
        go_wp2
        go_ret
        have hP := HP.out
        refine ⟨ret_bool ?_, hB⟩
        rw [List.drop_of_length_le (Nat.le_refl _), List.drop_of_length_le (by rw [HL.out]; exact Nat.le_refl _)] at hP
        simp [hP.1 rfl]
  · have hne : ((a.length : Int) != (b.length : Int)) = true := by rw [bne_iff_ne]; omega
    go_enter Tryz.func39, Tryz.ntmps39
    go_wp2
    go_ret
    exact ⟨ret_bool (by rw [eq_comm, decide_eq_false_iff_not]; intro h; exact hlen (by rw [h])), Below.refl _ _⟩

def vcats : List Cat := [(⟨#[73, 78]⟩, [1]), (⟨#[79, 85, 84]⟩, [2]), (⟨#[83, 85, 73, 84, 69]⟩, [])]
def vcabs : List Cab := [(⟨#[65, 49]⟩, 0, 2, false), (⟨#[66, 49]⟩, 1, 4, true), (⟨#[67, 49]⟩, 2, 2, false)]

def vesselObjs (n : Nat) : List Obj := [.cells #[.int .i64 3, .int .i64 6, .slice (some ⟨n + 1 + 1 + 1, 0, none⟩) 3 3, .slice (some ⟨n + 1 + 1 + 1 + 1, 0, none⟩) 3 3] 25, .cells #[.int .i64 1] 3, .cells #[.int .i64 2] 3,
  .cells #[.string ⟨#[73, 78]⟩, .slice (some ⟨n + 1, 0, none⟩) 1 1, .string ⟨#[79, 85, 84]⟩, .slice (some ⟨n + 1 + 1, 0, none⟩) 1 1, .string ⟨#[83, 85, 73, 84, 69]⟩, .slice none 0 0] 141,
  .cells #[.string ⟨#[65, 49]⟩, .int .i64 0, .int .i64 2, .bool false, .string ⟨#[66, 49]⟩, .int .i64 1, .int .i64 4, .bool true, .string ⟨#[67, 49]⟩, .int .i64 2, .int .i64 2, .bool false] 135]

end Go.Proofs.YtlamhfbdeinkkaeGreat.Sh
/- Plain facts on who serves whom, and on the order of categories. -/
namespace Go.Proofs.YtlamhfbdeinkkaeGreat.Sh
set_option linter.unusedSimpArgs false
set_option linter.unusedVariables false

theorem war_mono {T : Tab} {m a b : Nat} (h : P.war T m a b = true) : ∀ k, P.war T (m + k) a b = true := by
  intro k
  induction k with
  | zero => exact h
  | succ k ih =>
    rw [← Nat.add_assoc, P.war, P.step, ih]
    rfl
theorem war_le {T : Tab} {m n a b : Nat} (hmn : m ≤ n) (h : P.war T m a b = true) : P.war T n a b = true := by
  have := war_mono h (n - m)
  rwa [show m + (n - m) = n by omega] at this

theorem step_or {T : Tab} {m a b : Nat} : P.step T m a b = true ↔ T a b = true ∨ (T a m = true ∧ T m b = true) := by
  unfold P.step
  cases T a b <;> cases T a m <;> cases T m b <;> simp

theorem war_trans {T : Tab} : ∀ (m : Nat) {a b c : Nat}, c < m → P.war T m a c = true → P.war T m c b = true → P.war T m a b = true := by
  intro m
  induction m with
  | zero => intro a b c h; omega
  | succ m ih =>
    intro a b c hc h1 h2
    rw [P.war] at *
    rw [step_or] at *
    by_cases e : c = m
    · subst e
      have k1 : P.war T c a c = true := by rcases h1 with h | ⟨h, _⟩ <;> exact h
      have k2 : P.war T c c b = true := by rcases h2 with h | ⟨_, h⟩ <;> exact h
      exact .inr ⟨k1, k2⟩
    · have hc' : c < m := by omega
      rcases h1 with h1 | ⟨h1, h1'⟩ <;> rcases h2 with h2 | ⟨h2, h2'⟩
      · exact .inl (ih hc' h1 h2)
      · exact .inr ⟨ih hc' h1 h2, h2'⟩
      · exact .inr ⟨h1, ih hc' h1' h2⟩
      · exact .inr ⟨h1, h2'⟩

theorem serves_refl {l : List Cat} {a : Nat} (ha : a < l.length) (m : Nat) : P.war (P.base l) m a a = true :=
  war_le (Nat.zero_le m) (by show P.base l a a = true; simp [P.base, ha])

/-- The last step: who serves b, and is not b, serves one of b's Higher. -/
theorem serves_last {l : List Cat} (hh : ∀ c ∈ l, ∀ h ∈ c.2, 0 ≤ h ∧ h < l.length) : ∀ (m : Nat) {a b : Nat}, m ≤ l.length → a < l.length → b < l.length → P.war (P.base l) m a b = true →
    a = b ∨ ∃ h, h < l.length ∧ P.edge l h b = true ∧ P.war (P.base l) l.length a h = true := by
  intro m
  induction m with
  | zero =>
    intro a b _ ha hb h
    have h : P.base l a b = true := h
    unfold P.base at h
    simp [hb] at h
    rcases h with h | h
    · exact .inl h
    · exact .inr ⟨a, ha, h, serves_refl ha _⟩
  | succ m ih =>
    intro a b hm ha hb h
    rw [P.war, step_or] at h
    rcases h with h | ⟨h1, h2⟩
    · exact ih (by omega) ha hb h
    · rcases ih (by omega) (by omega : m < l.length) hb h2 with e | ⟨h, k1, k2, k3⟩
      · subst e
        exact ih (by omega) ha hb h1
      · exact .inr ⟨h, k1, k2, war_trans _ (by omega : m < l.length) (war_le (by omega) h1) k3⟩

theorem edge_mem {l : List Cat} {h b : Nat} (hb : b < l.length) (he : P.edge l h b = true) : (h : Int) ∈ (l.getD b (ByteArray.empty, [])).2 := by
  unfold P.edge at he
  rw [List.any_eq_true] at he
  obtain ⟨x, hx, e⟩ := he
  simp at e
  rw [← e]
  exact hx

theorem some_iff (p : Nat → Bool) (n : Nat) : P.some p n = true ↔ ∃ i, i < n ∧ p i = true := by
  unfold P.some
  rw [List.any_eq_true]
  constructor
  · rintro ⟨x, hx, h⟩; exact ⟨x, by simpa using hx, h⟩
  · rintro ⟨x, hx, h⟩; exact ⟨x, by simpa using hx, h⟩

theorem circle_iff {l : List Cat} : P.circle l = true ↔ ∃ i, i < l.length ∧ ∃ h ∈ (l.getD i (ByteArray.empty, [])).2, P.war (P.base l) l.length i h.toNat = true := by
  unfold P.circle
  rw [some_iff]
  constructor
  · rintro ⟨i, hi, h⟩
    unfold P.circAt at h
    rw [some_iff] at h
    obtain ⟨j, hj, h⟩ := h
    refine ⟨i, hi, (l.getD i (ByteArray.empty, [])).2.getD j 0, ?_, h⟩
    generalize (l.getD i (ByteArray.empty, [])).2 = hs at *
    rw [List.getD_eq_getElem?_getD, List.getElem?_eq_getElem hj]
    simp
  · rintro ⟨i, hi, h, hm, hw⟩
    refine ⟨i, hi, ?_⟩
    unfold P.circAt
    rw [some_iff]
    generalize (l.getD i (ByteArray.empty, [])).2 = hs at *
    obtain ⟨j, hj, e⟩ := List.getElem_of_mem hm
    refine ⟨j, hj, ?_⟩
    rw [List.getD_eq_getElem?_getD, List.getElem?_eq_getElem hj, Option.getD_some, e]
    exact hw

/-- No two serve one another. -/
theorem serves_anti {l : List Cat} (hh : ∀ c ∈ l, ∀ h ∈ c.2, 0 ≤ h ∧ h < l.length) (hc : P.circle l = false) {a b : Nat} (ha : a < l.length) (hb : b < l.length)
    (h1 : P.war (P.base l) l.length a b = true) (h2 : P.war (P.base l) l.length b a = true) : a = b := by
  rcases serves_last hh _ (Nat.le_refl _) ha hb h1 with e | ⟨h, k1, k2, k3⟩
  · exact e
  · exfalso
    have : P.circle l = true := circle_iff.2 ⟨b, hb, h, edge_mem hb k2, by simpa using war_trans _ ha h2 k3⟩
    rw [hc] at this
    cases this

/-! The order. -/

theorem sub_len : ∀ (A L : List Int), A.Nodup → (∀ x ∈ A, x ∈ L) → A.length ≤ L.length := by
  intro A
  induction A with
  | nil => intro L _ _; simp
  | cons a A ih =>
    intro L hn hs
    have ha := hs a (by simp)
    have h2 := List.nodup_cons.1 hn
    have := ih (L.erase a) h2.2 (fun x hx => by
      have hx2 := hs x (by simp [hx])
      have hne : x ≠ a := fun e => h2.1 (e ▸ hx)
      exact (List.mem_erase_of_ne hne).2 hx2)
    rw [List.length_erase_of_mem ha] at this
    have := List.length_pos_of_mem ha
    simp
    omega

structure P.Ordered (T : Tab) (n : Nat) (l : List Int) : Prop where
  nodup : l.Nodup
  bound : ∀ x ∈ l, 0 ≤ x ∧ x < (n : Int)
  apart : l.Pairwise (fun x y => T y.toNat x.toNat = false)
  shut : ∀ x ∈ l, ∀ o : Nat, o < n → ¬ (o : Int) ∈ l → T o x.toNat = false

theorem Ordered.nil (T : Tab) (n : Nat) : P.Ordered T n [] := ⟨List.nodup_nil, by simp, by simp, by simp⟩
/-- What a ship that is right gives. -/
theorem ship_facts {legs souls : Int} {cs : List Cat} {bs : List Cab} (h : P.shipE legs souls cs bs = 0) :
    let T := P.war (P.base cs) cs.length
    1 ≤ cs.length ∧ cs.length ≤ 5 ∧ (∀ c ∈ cs, ∀ h ∈ c.2, 0 ≤ h ∧ h < cs.length) ∧ (∀ a, a < cs.length → T a a = true) ∧ (∀ a b c, a < cs.length → b < cs.length → c < cs.length → T a b = true → T b c = true → T a c = true) ∧
    (∀ a b, a < cs.length → b < cs.length → T a b = true → T b a = true → a = b) ∧ P.orderL legs souls cs bs = P.order T cs.length cs.length [] := by
  obtain ⟨h1, h2, h3, h4, h5⟩ := ship_ok h
  have hh : ∀ c ∈ cs, ∀ h ∈ c.2, 0 ≤ h ∧ h < cs.length := fun c hc h hx => by have := high_ok (h3 c hc) h hx; omega
  exact ⟨h1, h2, hh, fun a ha => serves_refl ha _, fun a b c _ hb _ k1 k2 => war_trans _ hb k1 k2, fun a b ha hb k1 k2 => serves_anti hh h4 ha hb k1 k2, by rw [P.orderL, if_pos h]⟩

end Go.Proofs.YtlamhfbdeinkkaeGreat.Sh
set_option maxRecDepth 10000
/- The walk of the reference's isName. -/
namespace Go.Proofs.YtlamhfbdeinkkaeGreat.Sh
open Go.RowKit
set_option linter.unusedSimpArgs false
set_option linter.unusedVariables false

theorem between2_any (n a b : Int) (w : World) :
    Calls Tryz.prog 74 #[.int .i64 n, .int .i64 a, .int .i64 b] w fun e w' => e = .returned (.bool (P.btw n a b)) ∧ w' = w :=
  (between_any n a b w).mono fun e w' ⟨h1, h2⟩ => ⟨h1, h2.symm⟩

theorem sign_btw (c : Nat) : P.sign c = (P.btw c 65 90 || P.btw c 48 57) := by
  simp only [P.sign, P.btw]
  have e : ∀ a : Nat, decide ((a : Int) ≤ c) = decide (a ≤ c) ∧ decide ((c : Int) ≤ a) = decide (c ≤ a) := fun a => ⟨by rw [decide_eq_decide]; omega, by rw [decide_eq_decide]; omega⟩
  have e65 := e 65
  have e90 := e 90
  have e48 := e 48
  have e57 := e 57
  simp only [Int.cast_ofNat_Int] at e65 e90 e48 e57
  rw [e65.1, e90.2, e48.1, e57.2]

theorem name_no {s : ByteArray} {k : Nat} (hk : k < s.size) (h : P.sign (P.byteAt s k) = false) : P.name s = false := by
  rw [P.name]
  have : P.some (fun i => !P.sign (P.byteAt s i)) s.size = true := (some_iff _ _).2 ⟨k, hk, by simp [h]⟩
  rw [this]
  simp

theorem name_yes {s : ByteArray} (h : ∀ j, j < s.size → P.sign (P.byteAt s j) = true) : P.name s = P.btw s.size 1 8 := by
  rw [P.name]
  have : P.some (fun i => !P.sign (P.byteAt s i)) s.size = false := by
    cases e : P.some (fun i => !P.sign (P.byteAt s i)) s.size with
    | false => rfl
    | true =>
      obtain ⟨i, hi, h2⟩ := (some_iff _ _).1 e
      simp [h i hi] at h2
  rw [this]
  simp

set_option maxHeartbeats 1000000 in
theorem refName_any (s : ByteArray) (w : World) (hs : s.size ≤ maxLen) :
    Calls Tryz.prog 125 #[.string s] w fun e w' => e = .returned (.bool (P.name s)) ∧ w' = w := by
  have hs' : s.size ≤ 9223372036854775807 := by simpa only [maxLen] using hs
  clear hs
  go_enter Tryz.func125, Tryz.ntmps125
  go_wp2_with fail
  go_loopg [3] s.size (fun g i wx => ∃ (k : Nat), k ≤ s.size ∧ g = s.size - k ∧ i = .int .i64 k ∧ wx = w ∧ Aside (∀ j, j < k → P.sign (P.byteAt s j) = true))
  case atStart => exact ⟨0, Nat.zero_le _, rfl, rfl, rfl, fun j hj => by omega⟩
  case round =>
    obtain ⟨k, hk, rfl, rfl, rfl, HA⟩ := hrel
    by_cases hkl : k < s.size
    · have HE : Aside (P.byteAt s k = s[k].toNat) := byteAt_eq hkl
      have HS : Aside (P.sign (P.byteAt s k) = (P.btw s[k].toNat 65 90 || P.btw s[k].toNat 48 57)) := by show _ = _; rw [HE.out, sign_btw]
      have HW : Aside (wrap64 (s[k].toNat : Int) = s[k].toNat) := by show _ = _; have := s[k].toNat_lt; unfold wrap64; omega
      cases h1 : P.btw s[k].toNat 65 90
      · cases h2 : P.btw s[k].toNat 48 57
        · have HN : Aside (P.name s = false) := name_no hkl (by rw [HS.out, h1, h2]; rfl)
          go_wp2_with (go_at_call 74; rw [HW.out]; refine (between2_any _ _ _ _).mono ?_; rintro e w1 ⟨rfl, rfl⟩; first | rw [h1] | rw [h2])
          go_ret
          exact ⟨ret_bool HN.out.symm, rfl⟩
        · have HN : Aside (∀ j, j < k + 1 → P.sign (P.byteAt s j) = true) := fun j hj => by
            rcases Nat.lt_succ_iff_lt_or_eq.1 hj with h | rfl
            · exact HA.out j h
            · rw [HS.out, h1, h2]; rfl
          go_wp2_with (go_at_call 74; rw [HW.out]; refine (between2_any _ _ _ _).mono ?_; rintro e w1 ⟨rfl, rfl⟩; first | rw [h1] | rw [h2])
          go_roundg (s.size - (k + 1))
          case measure => omega
          case rel => exact ⟨k + 1, by omega, rfl, by go_num, rfl, HN⟩
      · have HN : Aside (∀ j, j < k + 1 → P.sign (P.byteAt s j) = true) := fun j hj => by
          rcases Nat.lt_succ_iff_lt_or_eq.1 hj with h | rfl
          · exact HA.out j h
          · rw [HS.out, h1]; rfl
        go_wp2_with (go_at_call 74; rw [HW.out]; refine (between2_any _ _ _ _).mono ?_; rintro e w1 ⟨rfl, rfl⟩; rw [h1])
        go_roundg (s.size - (k + 1))
        case measure => omega
        case rel => exact ⟨k + 1, by omega, rfl, by go_num, rfl, HN⟩
    · obtain rfl : k = s.size := by omega
      have HN : Aside (P.name s = P.btw s.size 1 8) := name_yes HA.out
      go_wp2_with (go_at_call 74; refine (between2_any _ _ _ _).mono ?_; rintro e w1 ⟨rfl, rfl⟩)
      go_ret
      exact ⟨ret_bool HN.out.symm, rfl⟩

end Go.Proofs.YtlamhfbdeinkkaeGreat.Sh
/- The reference's table (a slice of rows that the call makes): how it lies; the walk of ServeTable. -/
namespace Go.Proofs.YtlamhfbdeinkkaeGreat.Sh
open Go.RowKit
set_option linter.unusedSimpArgs false
set_option linter.unusedVariables false
set_option linter.unnecessarySimpa false

/-- Behind ⟨g, 0⟩ lie n rows; row i lies in block B i, and holds T i. -/
structure TblAt (w : World) (base n g : Nat) (B : Nat → Nat) (T : Tab) : Prop where
  lo : base ≤ g
  rlo : ∀ i, i < n → base ≤ B i ∧ B i ≠ g
  inj : ∀ i j, i < n → j < n → B i = B j → i = j
  out : ∀ i, i < n → w.cell? ⟨g, i, none⟩ = some (.slice (some ⟨B i, 0, none⟩) n n)
  row : ∀ i, i < n → w.rowIs (B i) 4 n (fun j => .bool (T i j))

section
variable {w w' : World} {base n g : Nat} {B : Nat → Nat} {T T' : Tab}
theorem TblAt.get (h : TblAt w base n g B T) {i j : Nat} (hi : i < n) (hj : j < n) : w.cell? ⟨B i, j, none⟩ = some (.bool (T i j)) := (h.row i hi).cell hj
theorem TblAt.frozen (h : TblAt w base n g B T) {i : Nat} (hi : i < n) (j : Nat) : w.frozen? ⟨B i, j, none⟩ = false := (h.row i hi).frozen j
theorem TblAt.congr (h : TblAt w base n g B T) (e : ∀ x y, x < n → y < n → T x y = T' x y) : TblAt w base n g B T' :=
  ⟨h.lo, h.rlo, h.inj, h.out, fun i hi => (h.row i hi).congr fun j hj => by rw [e i j hi hj]⟩
theorem TblAt.below (h : TblAt w base n g B T) (hb : Below w.heap.size w w') : TblAt w' base n g B T :=
  ⟨h.lo, h.rlo, h.inj, fun i hi => cellIn hb (h.out i hi), fun i hi => (h.row i hi).of_block (hb.block _ (h.row i hi).lt)⟩
theorem TblAt.put (h : TblAt w base n g B T) {i j : Nat} {v : Bool} (hi : i < n) (hj : j < n) (h1 : T' i j = v) (h2 : ∀ x y, x < n → y < n → ¬ (x = i ∧ y = j) → T' x y = T x y) : TblAt (w.setCell ⟨B i, j, none⟩ (.bool v)) base n g B T' := by
  refine ⟨h.lo, h.rlo, h.inj, fun k hk => ?_, fun k hk => ?_⟩
  · rw [World.cell?_of_block (Below.heap_setCell w ⟨B i, j, none⟩ (.bool v) g (fun e => (h.rlo i hi).2 e.symm))]
    exact h.out k hk
  · by_cases e : k = i
    · subst e
      refine World.rowIs.congr (World.rowIs.set (h.row k hk) j (.bool v)) fun y hy => ?_
      by_cases e2 : y = j
      · rw [if_pos e2, e2, h1]
      · rw [if_neg e2, h2 k y hk hy (by omega)]
    · refine World.rowIs.congr (World.rowIs.setOther (h.row k hk) (fun e2 => e (h.inj k i hk hi e2)) _) fun y hy => ?_
      rw [h2 k y hk hy (by omega)]
end

/-- The table in the making: k rows of n, all false. -/
structure TblUp (w : World) (base n k : Nat) (v : Value) (B : Nat → Nat) : Prop where
  own : w.ownsRow base 155 1 v k ((List.range k).map fun i => .slice (some ⟨B i, 0, none⟩) n n)
  rlo : ∀ i, i < k → base ≤ B i ∧ v.ownBlock ≠ some (B i)
  inj : ∀ i j, i < k → j < k → B i = B j → i = j
  row : ∀ i, i < k → w.rowIs (B i) 4 n (fun _ => .bool false)

theorem TblUp.done {w : World} {base n : Nat} {v : Value} {B : Nat → Nat} (h : TblUp w base n n v B) (hn : 0 < n) : ∃ g cap, v = .slice (some ⟨g, 0, none⟩) n cap ∧ TblAt w base n g B (fun _ _ => false) := by
  obtain ⟨g, cap, rfl, hb, _⟩ := h.own.form hn
  refine ⟨g, cap, rfl, hb, fun i hi => ⟨(h.rlo i hi).1, fun e => (h.rlo i hi).2 (by rw [e]; rfl)⟩, h.inj, fun i hi => ?_, h.row⟩
  have := h.own.cells (g := g) rfl i (.slice (some ⟨B i, 0, none⟩) n n) (by simp [hi])
  rw [Go.WideShapes.add_plain] at this
  simpa using this

theorem row_of_made {w : World} {base b n : Nat} {t : TypeId} {z : Value} (h : w.ownsRow base t 1 (.slice (some ⟨b, 0, none⟩) n n) n (madeCells #[z] (n * 1)).toList) : w.rowIs b t n (fun _ => z) := by
  rcases h.2 with ⟨h1, _⟩ | ⟨g, cap, cur, h1, _, h3, _, _, h6, h7⟩
  · cases h1
  · simp only [Value.slice.injEq, Option.some.injEq, Addr.mk.injEq] at h1
    obtain ⟨⟨rfl, _⟩, _, rfl⟩ := h1
    refine ⟨cur, h3, by simpa using h6, fun i hi => ?_⟩
    have : (cur.toList.take (n * 1))[i]? = (madeCells #[z] (n * 1)).toList[i]? := by rw [h7]
    rw [List.getElem?_take, if_pos (by omega), Array.getElem?_toList, Array.getElem?_toList] at this
    rw [this]
    simp [madeCells, hi, Nat.mod_one]

/-- One row more. wr: ahead of the round; w1: the row is made; W: it lies in a block of its own, for the append; w2: behind it. -/
theorem TblUp.more {wr w1 w2 : World} {base n k g cap : Nat} {v : Value} {B : Nat → Nat} {o : Obj} (h : TblUp wr base n k v B) (hbase : base ≤ wr.heap.size) (h1 : wr.grownBy w1 none) (hrow : w1.rowIs wr.heap.size 4 n (fun _ => .bool false))
    (hown : w2.ownsRow base 155 1 (.slice (some ⟨g, 0, none⟩) (k + 1) cap) (k + 1) (((List.range k).map fun i => Value.slice (some ⟨B i, 0, none⟩) n n) ++ [.slice (some ⟨wr.heap.size, 0, none⟩) n n]))
    (hg : (w1.alloc o).grownBy w2 v.ownBlock) (hat : v.ownBlock = some g ∨ g = w1.heap.size + 1) : TblUp w2 base n (k + 1) (.slice (some ⟨g, 0, none⟩) (k + 1) cap) (fun i => if i = k then wr.heap.size else B i) := by
  have hlt := hrow.lt
  have hnew : v.ownBlock ≠ some wr.heap.size := fun e => by have := (h.own.lt _ e).2; omega
  have keep : ∀ b f, w1.rowIs b 4 n f → v.ownBlock ≠ some b → w2.rowIs b 4 n f := fun b f hb hne => hb.of_block ((hg.block b (by have := hb.lt; simp; omega) (Ne.symm hne)).trans (Below.heap_alloc w1 o b hb.lt))
  have old : ∀ i, i < k → w1.rowIs (B i) 4 n (fun _ => .bool false) := fun i hi => (h.row i hi).of_block (h1.block _ (h.row i hi).lt (by simp))
  refine ⟨?_, fun i hi => ?_, fun i j hi hj e => ?_, fun i hi => ?_⟩
  · have e : ((List.range (k + 1)).map fun i => Value.slice (some ⟨(fun i => if i = k then wr.heap.size else B i) i, 0, none⟩) n n) = ((List.range k).map fun i => Value.slice (some ⟨B i, 0, none⟩) n n) ++ [.slice (some ⟨wr.heap.size, 0, none⟩) n n] := by
      rw [List.range_succ, List.map_append]
      congr 1
      · refine List.map_congr_left fun i hi => ?_
        have : i ≠ k := by have := List.mem_range.1 hi; omega
        simp [this]
      · simp
    rw [e]
    exact hown
  · simp only [Value.ownBlock]
    by_cases e : i = k
    · rw [if_pos e]
      refine ⟨hbase, fun e2 => ?_⟩
      simp only [Option.some.injEq] at e2
      rcases hat with h2 | h2
      · exact hnew (by rw [h2, e2])
      · omega
    · rw [if_neg e]
      refine ⟨(h.rlo i (by omega)).1, fun e2 => ?_⟩
      simp only [Option.some.injEq] at e2
      rcases hat with h2 | h2
      · exact (h.rlo i (by omega)).2 (by rw [h2, e2])
      · have := (old i (by omega)).lt; omega
  · have ltB : ∀ i, i < k → B i < wr.heap.size := fun i hi => (h.row i hi).lt
    by_cases ei : i = k <;> by_cases ej : j = k
    · omega
    · rw [if_pos ei, if_neg ej] at e; have := ltB j (by omega); omega
    · rw [if_neg ei, if_pos ej] at e; have := ltB i (by omega); omega
    · rw [if_neg ei, if_neg ej] at e; exact h.inj i j (by omega) (by omega) e
  · by_cases e : i = k
    · rw [if_pos e]; exact keep _ _ hrow hnew
    · rw [if_neg e]; exact keep _ _ (old i (by omega)) (h.rlo i (by omega)).2

/-- What the reference's table begins with; in the midst of its making. -/
def P.rdone (l : List Cat) (k : Nat) : Tab := fun a b => decide (b < k) && P.edge l a b
def P.rpart (l : List Cat) (k : Nat) (hs : List Int) : Tab := fun a b => P.rdone l k a b || (decide (b = k) && hs.any fun h => decide (h = (a : Int)))
def P.rbase (l : List Cat) : Tab := P.rdone l l.length

theorem Tryz.infoRow : (Tryz.prog.info? 155).map (fun i => (i.zero, i.size, i.bytes)) = some (some (.slice none 0 0), 1, 24) := by kernel_rfl
theorem Tryz.infoBool : (Tryz.prog.info? 4).map (fun i => (i.zero, i.size, i.bytes)) = some (some (.bool false), 1, 1) := by kernel_rfl

end Go.Proofs.YtlamhfbdeinkkaeGreat.Sh
/- The walk of the reference's ServeTable. -/
namespace Go.Proofs.YtlamhfbdeinkkaeGreat.Sh
open Go.RowKit
set_option linter.unusedSimpArgs false
set_option linter.unusedVariables false
set_option linter.unnecessarySimpa false

set_option maxRecDepth 100000 in
set_option maxHeartbeats 4000000 in
theorem serveTable_any (legs souls : Int) (cao bao : Option Addr) (cc bc : Nat) (cs : List Cat) (bs : List Cab) (w : World) (hs : ShipAt w cao bao cc bc cs bs) (hn1 : 1 ≤ cs.length) (hn : cs.length ≤ 5) (hh : ∀ c ∈ cs, ∀ h ∈ c.2, 0 ≤ h ∧ h < cs.length) :
    Calls Tryz.prog 126 #[.agg #[.int .i64 legs, .int .i64 souls, .slice cao cs.length cc, .slice bao bs.length bc]] w fun e w' => ∃ g cap B, e = .returned (.slice (some ⟨g, 0, none⟩) cs.length cap) ∧ TblAt w' (w.heap.size + 1) cs.length g B (P.war (P.rbase cs) cs.length) ∧ Below w.heap.size w w' := by
  have HH : Aside (∀ c ∈ cs, ∀ h ∈ c.2, 0 ≤ h ∧ h < cs.length) := hh
  have HS : Aside (ShipAt w cao bao cc bc cs bs) := hs
  clear hs hh
  obtain ⟨i0, hi, hi0, hi1, hi2⟩ := info_parts Tryz.infoRow
  obtain ⟨j0, hj, hj0, hj1, hj2⟩ := info_parts Tryz.infoBool
  have HI : Aside (Tryz.prog.info? 155 = some i0 ∧ i0.zero = some (.slice none 0 0) ∧ i0.size = 1 ∧ i0.bytes = 24) := ⟨hi, hi0, hi1, hi2⟩
  have HJ : Aside (Tryz.prog.info? 4 = some j0 ∧ j0.zero = some (.bool false) ∧ j0.size = 1 ∧ j0.bytes = 1) := ⟨hj, hj0, hj1, hj2⟩
  clear hi hi0 hi1 hi2 hj hj0 hj1 hj2
  go_enter Tryz.func126, Tryz.ntmps126
  go_wp2
  go_loopg [4, 5] cs.length (fun g v i wr => ∃ (k : Nat) (B : Nat → Nat), k ≤ cs.length ∧ g = cs.length - k ∧ i = .int .i64 k ∧ TblUp wr (w.heap.size + 1) cs.length k v B ∧ wr.cell? ⟨w.heap.size, 2, none⟩ = some (.slice cao cs.length cc) ∧ Below (w.heap.size + 1) (w.alloc (.cells #[.int .i64 legs, .int .i64 souls, .slice cao cs.length cc, .slice bao bs.length bc] 25)) wr)
  case atStart => exact ⟨0, fun _ => 0, Nat.zero_le _, rfl, rfl, ⟨World.ownsRow_nil _ _ _ _, fun i hi => by omega, fun i j hi => by omega, fun i hi => by omega⟩, by simp, Below.refl _ _⟩
  case round =>
    obtain ⟨k, B, hk, rfl, rfl, hU, hbx, hB⟩ := hrel
    by_cases hkl : k < cs.length
    · have hBs : w.heap.size + 1 ≤ wr.heap.size := by have := hB.size; simpa using this
      have HU : Aside (TblUp wr (w.heap.size + 1) cs.length k u4 B) := hU
      clear hU
      go_wp2_with (first
        | (at_make; refine wpList_make_full _ (by rfl) _ _ 155 (by rfl) (w.heap.size + 1) 4 j0 _ 1 Tryz.underlying155 HJ.out.1 HJ.out.2.1 HJ.out.2.2.1 _ _ _ _ cs.length (by rfl) (by rfl) rfl rfl (by rw [HJ.out.2.2.2]; omega) (by unfold maxLen; omega) hBs ?_; intro w1 hrow1 hgr1; have hlt1 := (row_of_made hrow1).lt; have h1s := hgr1.size)
        | (at_builtin; refine wpList_append_lies _ (by rfl) _ _ 153 (by rfl) (w.heap.size + 1) 155 i0 _ 1 24 Tryz.underlying153 HI.out.1 HI.out.2.1 HI.out.2.2.1 HI.out.2.2.2 rfl (by decide) u4 k ((List.range k).map fun i => .slice (some ⟨B i, 0, none⟩) cs.length cs.length) (by rfl) ((HU.out.own.kept hgr1 (Classical.em _)).alloc _) ⟨w1.heap.size, 0, none⟩ 1 1 [.slice (some ⟨wr.heap.size, 0, none⟩) cs.length cs.length] (by rfl) (by rfl) (World.news_of_block (cs := #[.slice (some ⟨wr.heap.size, 0, none⟩) cs.length cs.length]) (heap_alloc_new w1 _)) (by simp; exact rfl) (by omega) (by unfold maxLen; omega) (by omega) (by simp; omega) (w1.heap.size + 1) (by simp) ?_; intro g2 cap2 w2 hown2 hgr2 hat2 hlt2))
      go_roundg (cs.length - (k + 1))
      case measure => omega
      case rel =>
        have hw1 : Below wr.heap.size wr w1 := below_none hgr1
        have hB1 : Below (w.heap.size + 1) (w.alloc (.cells #[.int .i64 legs, .int .i64 souls, .slice cao cs.length cc, .slice bao bs.length bc] 25)) w1 := hB.trans ⟨hw1.os, hw1.tape, hw1.output, hw1.size, fun b hb => hw1.block b (by omega)⟩
        have hB2 : Below (w.heap.size + 1) (w.alloc (.cells #[.int .i64 legs, .int .i64 souls, .slice cao cs.length cc, .slice bao bs.length bc] 25)) w2 := (hB1.alloc (by omega) _).grown hgr2 (by simp; omega) (fun b hb => (HU.out.own.lt b hb).1)
        refine ⟨k + 1, _, by omega, rfl, by go_num, TblUp.more HU.out hBs hgr1 (row_of_made hrow1) hown2 hgr2 hat2, ?_, hB2⟩
        rw [hB2.cell (p := ⟨w.heap.size, 2, none⟩) (by show w.heap.size < w.heap.size + 1; omega)]
        simp
    · obtain rfl : k = cs.length := by omega
      obtain ⟨g, cap, rfl, hT⟩ := hU.done (by omega)
      have hB' : Below w.heap.size w wr := (show Below w.heap.size w _ from by go_grown).trans ⟨hB.os, hB.tape, hB.output, hB.size, fun b hb => hB.block b (by omega)⟩
      clear hU hB
      go_wp2
      go_loopg [6] cs.length (fun g' i wx => ∃ (k : Nat), k ≤ cs.length ∧ g' = cs.length - k ∧ i = .int .i64 k ∧ TblAt wx (w.heap.size + 1) cs.length g B (P.rdone cs k) ∧ wx.cell? ⟨w.heap.size, 2, none⟩ = some (.slice cao cs.length cc) ∧ Below w.heap.size w wx)
      case atStart => exact ⟨0, Nat.zero_le _, rfl, rfl, hT.congr (fun x y _ _ => by simp [P.rdone]), hbx, hB'⟩
      case round =>
        clear hT hbx hB'
        obtain ⟨k, hk, rfl, rfl, hT, hbx, hB⟩ := hrel
        by_cases hlt : k < cs.length
        · obtain ⟨b, off, nm, hs, hao, hcap, rfl, hbw, hd, hcw0, hcw1, hin, hnm⟩ := CatsAt.get HS.out.cats (Below.refl _ _) k hlt
          have HG : Aside (cs.getD k (ByteArray.empty, []) = (nm, hs)) := by
            have h1 := List.drop_eq_getElem_cons hlt
            rw [hd] at h1
            simp only [List.cons.injEq] at h1
            show _ = _
            rw [List.getD_eq_getElem?_getD, List.getElem?_eq_getElem hlt, ← h1.1]
            rfl
          have HHs : Aside (∀ h ∈ hs, 0 ≤ h ∧ h < cs.length) := by
            have hm : (nm, hs) ∈ cs := by
              have := List.mem_cons_self (a := (nm, hs)) (l := cs.drop (k + 1))
              rw [← hd] at this
              exact List.mem_of_mem_drop this
            exact HH.out _ hm
          clear hd
          go_wp2
          go_loopg [7] hs.length (fun g' j wx => ∃ (i : Nat), i ≤ hs.length ∧ g' = hs.length - i ∧ j = .int .i64 i ∧ TblAt wx (w.heap.size + 1) cs.length g B (P.rpart cs k (hs.take i)) ∧ wx.cell? ⟨w.heap.size, 2, none⟩ = some (.slice (some ⟨b, off, none⟩) cs.length cc) ∧ Below w.heap.size w wx)
          case atStart => exact ⟨0, Nat.zero_le _, rfl, rfl, hT.congr (fun x y _ _ => by simp [P.rpart]), hbx, hB⟩
          case round =>
            clear hT hbx hB
            obtain ⟨i, hi, rfl, rfl, hT, hbx, hB⟩ := hrel
            have hc1 := cellIn hB hcw1
            have hhl := hin.le
            have hhm := hin.max
            unfold maxLen at hhm
            by_cases hil : i < hs.length
            · obtain ⟨b2, off2, h, rfl, hb2, hd2, hc2⟩ := IntsAt.get hin hB i hil
              have hmem : h ∈ hs := by
                have := List.mem_cons_self (a := h) (l := hs.drop (i + 1))
                rw [← hd2] at this
                exact List.mem_of_mem_drop this
              obtain ⟨hh0, hh1⟩ := HHs.out h hmem
              obtain ⟨H, rfl⟩ : ∃ H : Nat, h = H := ⟨h.toNat, by omega⟩
              have HD : Aside (hs.take (i + 1) = hs.take i ++ [(H : Int)]) := by
                have h1 := List.drop_eq_getElem_cons hil
                rw [hd2] at h1
                simp only [List.cons.injEq] at h1
                show _ = _
                rw [h1.1, List.take_succ_eq_append_getElem hil]
              clear hd2
              have hfr := hT.frozen (i := H) (by omega) k
              have hce := hT.get (i := H) (j := k) (by omega) (by omega)
              have hou := hT.out H (by omega)
              have hlo := hT.rlo H (by omega)
              go_wp2
              go_roundg (hs.length - (i + 1))
              case measure => omega
              case rel =>
                refine ⟨i + 1, by omega, rfl, by go_num, ?_, ?_, hB.setCell (by show w.heap.size ≤ B H; omega) _⟩
                · refine TblAt.put hT (by omega) (by omega) ?_ ?_
                  · unfold P.rpart; rw [HD.out]; simp
                  · intro x y hx hy hne
                    unfold P.rpart
                    rw [HD.out]
                    by_cases e : y = k
                    · subst e
                      have : ¬ (H : Int) = (x : Int) := by intro e2; exact hne ⟨by omega, rfl⟩
                      simp [this]
                    · simp [e]
                · rw [World.cell?_of_block (Below.heap_setCell _ _ _ _ (by show w.heap.size ≠ B H; omega))]
                  exact hbx
            · obtain rfl : i = hs.length := by omega
              rw [List.take_of_length_le (Nat.le_refl _)] at hT
              go_wp2
              go_roundg (cs.length - (k + 1))
              case measure => omega
              case rel =>
                refine ⟨k + 1, by omega, rfl, by go_num, TblAt.congr hT ?_, hbx, hB⟩
                intro x y hx hy
                unfold P.rpart P.rdone P.edge
                by_cases e : y = k
                · subst e
                  rw [HG.out]
                  simp
                · have e2 : decide (y < k) = decide (y < k + 1) := by rw [decide_eq_decide]; omega
                  simp [e, e2]
        · obtain rfl : k = cs.length := by omega
          have hT0 : TblAt wr (w.heap.size + 1) cs.length g B (P.war (P.rbase cs) 0) := hT
          clear hT hbx
          go_wp2
          go_loopg [8] cs.length (fun g' i wx => ∃ (m : Nat), m ≤ cs.length ∧ g' = cs.length - m ∧ i = .int .i64 m ∧ TblAt wx (w.heap.size + 1) cs.length g B (P.war (P.rbase cs) m) ∧ Below w.heap.size w wx)
          case atStart => exact ⟨0, Nat.zero_le _, rfl, rfl, hT0, hB⟩
          case round =>
            clear hT0 hB
            obtain ⟨m, hm, rfl, rfl, hT, hB⟩ := hrel
            by_cases hml : m < cs.length
            · generalize hW : P.war (P.rbase cs) m = T at hT
              have HW : Aside (P.war (P.rbase cs) (m + 1) = P.step T m) := by show _ = _; rw [P.war, hW]
              clear hW
              go_wp2
              go_loopg [9] cs.length (fun g' i wx => ∃ (a : Nat), a ≤ cs.length ∧ g' = cs.length - a ∧ i = .int .i64 a ∧ TblAt wx (w.heap.size + 1) cs.length g B (P.mix T m a 0) ∧ Below w.heap.size w wx)
              case atStart => exact ⟨0, Nat.zero_le _, rfl, rfl, hT.congr (fun x y _ _ => by simp [P.mix]), hB⟩
              case round =>
                clear hT hB
                obtain ⟨a, ha, rfl, rfl, hT, hB⟩ := hrel
                by_cases hal : a < cs.length
                · go_wp2
                  go_loopg [10] cs.length (fun g' i wx => ∃ (b : Nat), b ≤ cs.length ∧ g' = cs.length - b ∧ i = .int .i64 b ∧ TblAt wx (w.heap.size + 1) cs.length g B (P.mix T m a b) ∧ Below w.heap.size w wx)
                  case atStart => exact ⟨0, Nat.zero_le _, rfl, rfl, hT, hB⟩
                  case round =>
                    clear hT hB
                    obtain ⟨b, hb, rfl, rfl, hT, hB⟩ := hrel
                    by_cases hbl : b < cs.length
                    · have g1 := hT.get (i := a) (j := b) (by omega) (by omega)
                      have g2 := hT.get (i := a) (j := m) (by omega) (by omega)
                      have g3 := hT.get (i := m) (j := b) (by omega) (by omega)
                      have o1 := hT.out a (by omega)
                      have o2 := hT.out m (by omega)
                      have hfr := hT.frozen (i := a) (by omega) b
                      have hlo := hT.rlo a (by omega)
                      rw [mix_here] at g1
                      rw [mix_am] at g2
                      rw [mix_mb] at g3
                      have i1 : (a : Int) < cs.length := by omega
                      have i2 : (b : Int) < cs.length := by omega
                      have i3 : (m : Int) < cs.length := by omega
                      have i4 : (0 : Int) ≤ a := by omega
                      have i5 : (0 : Int) ≤ b := by omega
                      have i6 : (0 : Int) ≤ m := by omega
                      have HFIN : Aside ((∀ v, P.step T m a b = v → TblAt (wr.setCell ⟨B a, b, none⟩ (.bool v)) (w.heap.size + 1) cs.length g B (P.mix T m a (b + 1))) ∧ ∀ v, Below w.heap.size w (wr.setCell ⟨B a, b, none⟩ (.bool v))) :=
                        ⟨fun v hv => TblAt.put hT (by omega) (by omega) (by unfold P.mix; rw [if_pos (by omega)]; exact hv) (fun x y hx hy hne => by
                          unfold P.mix
                          by_cases e : x < a ∨ (x = a ∧ y < b)
                          · rw [if_pos e, if_pos (by omega)]
                          · rw [if_neg e, if_neg (by omega)]), fun v => hB.setCell (by show w.heap.size ≤ B a; omega) _⟩
                      have HT : Aside (TblAt wr (w.heap.size + 1) cs.length g B (P.mix T m a b)) := hT
                      clear hT
                      cases t1 : T a b
                      · rw [t1] at g1
                        cases t2 : T a m
                        · rw [t2] at g2
                          have HV : Aside (P.step T m a b = false) := by show _ = _; simp [P.step, t1, t2]
                          clear t1 t2
                          go_wp2
                          go_big_region
                          go_wp2
                          go_roundg (cs.length - (b + 1))
                          case measure => omega
                          case rel => exact ⟨b + 1, by omega, rfl, by go_num, (HFIN.out.1 _ HV.out).below (Below.refl _ _).drew, (HFIN.out.2 _).drew⟩
                        · rw [t2] at g2
                          cases t3 : T m b
                          · rw [t3] at g3
                            have HV : Aside (P.step T m a b = false) := by show _ = _; simp [P.step, t1, t2, t3]
                            clear t1 t2 t3
                            go_wp2
                            go_big_region
                            go_wp2
                            go_roundg (cs.length - (b + 1))
                            case measure => omega
                            case rel => exact ⟨b + 1, by omega, rfl, by go_num, (HFIN.out.1 _ HV.out).below (Below.refl _ _).drew, (HFIN.out.2 _).drew⟩
                          · rw [t3] at g3
                            have HV : Aside (P.step T m a b = true) := by show _ = _; simp [P.step, t1, t2, t3]
                            clear t1 t2 t3
                            go_wp2
                            go_big_region
                            go_wp2
                            go_roundg (cs.length - (b + 1))
                            case measure => omega
                            case rel => exact ⟨b + 1, by omega, rfl, by go_num, (HFIN.out.1 _ HV.out).below (Below.refl _ _).drew, (HFIN.out.2 _).drew⟩
                      · rw [t1] at g1
                        have HV : Aside (P.step T m a b = true) := by show _ = _; simp [P.step, t1]
                        clear t1
                        go_wp2
                        go_big_region
                        go_wp2
                        go_roundg (cs.length - (b + 1))
                        case measure => omega
                        case rel => exact ⟨b + 1, by omega, rfl, by go_num, (HFIN.out.1 _ HV.out).below (Below.refl _ _).drew, (HFIN.out.2 _).drew⟩
                    · obtain rfl : b = cs.length := by omega
                      go_wp2
                      go_roundg (cs.length - (a + 1))
                      case measure => omega
                      case rel =>
                        refine ⟨a + 1, by omega, rfl, by go_num, hT.congr fun x y hx hy => ?_, hB⟩
                        unfold P.mix
                        by_cases e : x < a ∨ (x = a ∧ y < cs.length)
                        · rw [if_pos e, if_pos (by omega)]
                        · rw [if_neg e, if_neg (by omega)]
                · obtain rfl : a = cs.length := by omega
                  go_wp2
                  go_roundg (cs.length - (m + 1))
                  case measure => omega
                  case rel =>
                    refine ⟨m + 1, by omega, rfl, by go_num, ?_, hB⟩
                    rw [HW.out]
                    refine hT.congr fun x y hx hy => ?_
                    unfold P.mix
                    rw [if_pos (by omega)]
            · obtain rfl : m = cs.length := by omega
              go_wp2
              go_ret
              exact ⟨g, cap, B, rfl, hT, hB⟩

end Go.Proofs.YtlamhfbdeinkkaeGreat.Sh
/- Plain facts: the reference's table against the program's; its circles; its order. -/
namespace Go.Proofs.YtlamhfbdeinkkaeGreat.Sh
open Go.RowKit
set_option linter.unusedSimpArgs false
set_option linter.unusedVariables false
set_option linter.unnecessarySimpa false

theorem war_split (l : List Cat) : ∀ (m a b : Nat), P.war (P.base l) m a b = ((decide (a = b) && decide (b < l.length)) || P.war (P.rbase l) m a b) := by
  intro m
  induction m with
  | zero =>
    intro a b
    simp only [P.war, P.base, P.rbase, P.rdone]
    cases decide (b < l.length) <;> cases decide (a = b) <;> simp
  | succ m ih =>
    intro a b
    simp only [P.war, P.step, ih]
    by_cases e1 : a = m
    · subst e1
      by_cases e2 : a = b
      · subst e2
        cases decide (a < l.length) <;> cases P.war (P.rbase l) a a a <;> simp
      · simp only [e2]
        cases decide (a < l.length) <;> cases P.war (P.rbase l) a a a <;> cases P.war (P.rbase l) a a b <;> simp
    · by_cases e2 : m = b
      · subst e2
        simp only [e1]
        cases decide (m < l.length) <;> cases P.war (P.rbase l) m m m <;> cases P.war (P.rbase l) m a m <;> simp
      · simp only [e1, e2]
        simp [Bool.or_assoc]

theorem rlast {l : List Cat} : ∀ (m : Nat) {a b : Nat}, P.war (P.rbase l) m a b = true → ∃ h, b < l.length ∧ P.edge l h b = true ∧ (a = h ∨ P.war (P.rbase l) m a h = true) := by
  intro m
  induction m with
  | zero =>
    intro a b h
    simp only [P.war, P.rbase, P.rdone, Bool.and_eq_true] at h
    exact ⟨a, by simpa using h.1, h.2, .inl rfl⟩
  | succ m ih =>
    intro a b h
    rw [P.war, step_or] at h
    rcases h with h | ⟨h1, h2⟩
    · obtain ⟨x, hx, he, h3⟩ := ih h
      exact ⟨x, hx, he, h3.imp id fun h4 => by rw [P.war, step_or]; exact .inl h4⟩
    · obtain ⟨x, hx, he, h3⟩ := ih h2
      refine ⟨x, hx, he, .inr ?_⟩
      rw [P.war, step_or]
      rcases h3 with rfl | h3
      · exact .inl h1
      · exact .inr ⟨h1, h3⟩

theorem redge {l : List Cat} {b : Nat} {h : Int} (hb : b < l.length) (hm : h ∈ (l.getD b (ByteArray.empty, [])).2) (h0 : 0 ≤ h) : P.rbase l h.toNat b = true := by
  simp only [P.rbase, P.rdone, Bool.and_eq_true]
  refine ⟨by simpa using hb, ?_⟩
  unfold P.edge
  rw [List.any_eq_true]
  exact ⟨h, hm, by simp; omega⟩

theorem getD_mem {l : List Cat} {b : Nat} (hb : b < l.length) : l.getD b (ByteArray.empty, []) ∈ l := by
  rw [List.getD_eq_getElem?_getD, List.getElem?_eq_getElem hb]
  exact List.getElem_mem hb

theorem circle_ref {l : List Cat} (hh : ∀ c ∈ l, ∀ h ∈ c.2, 0 ≤ h ∧ h < l.length) : P.circle l = P.some (fun i => P.war (P.rbase l) l.length i i) l.length := by
  rw [Bool.eq_iff_iff, circle_iff, some_iff]
  constructor
  · rintro ⟨i, hi, h, hm, hw⟩
    have hr := hh _ (getD_mem hi) h hm
    refine ⟨i, hi, ?_⟩
    have e1 : P.war (P.rbase l) l.length h.toNat i = true := war_le (m := 0) (Nat.zero_le _) (redge hi hm hr.1)
    rw [war_split, Bool.or_eq_true] at hw
    rcases hw with hw | hw
    · simp at hw
      rw [← hw.1] at e1
      exact e1
    · exact war_trans l.length (by omega) hw e1
  · rintro ⟨i, hi, hw⟩
    obtain ⟨x, _, he, h3⟩ := rlast _ hw
    have hm := edge_mem hi he
    refine ⟨i, hi, x, hm, ?_⟩
    have hr := hh _ (getD_mem hi) _ hm
    rw [Int.toNat_natCast, war_split, Bool.or_eq_true]
    rcases h3 with rfl | h3
    · left; simp; omega
    · exact .inr h3

/-- What the reference's search holds when those from k on are looked at. -/
def P.Nx (p : Nat → Bool) (k n : Nat) (X : Int) : Prop := (X = -1 ∧ ∀ j, k ≤ j → j < n → p j = false) ∨ ∃ j : Nat, X = j ∧ k ≤ j ∧ j < n ∧ p j = true ∧ ∀ i, k ≤ i → i < j → p i = false

theorem Nx.no {p : Nat → Bool} {k n : Nat} {X : Int} (h : P.Nx p (k + 1) n X) (hp : p k = false) : P.Nx p k n X := by
  rcases h with ⟨h1, h2⟩ | ⟨j, h1, h2, h3, h4, h5⟩
  · exact .inl ⟨h1, fun j hj hn => by rcases Nat.eq_or_lt_of_le hj with rfl | hj; exact hp; exact h2 j hj hn⟩
  · exact .inr ⟨j, h1, by omega, h3, h4, fun i hi hn => by rcases Nat.eq_or_lt_of_le hi with rfl | hi; exact hp; exact h5 i hi hn⟩
theorem Nx.yes {p : Nat → Bool} {k n : Nat} (hk : k < n) (hp : p k = true) : P.Nx p k n (k : Int) := .inr ⟨k, rfl, Nat.le_refl _, hk, hp, fun i hi hn => by omega⟩
theorem Nx.done {p q : Nat → Bool} {n : Nat} {X : Int} (h : P.Nx p 0 n X) (hpq : ∀ i, i < n → p i = q i) (hl : P.least q n < n) : X = P.least q n := by
  rcases h with ⟨_, h2⟩ | ⟨j, h1, _, h3, h4, h5⟩
  · have := least_yes hl
    rw [← hpq _ hl, h2 _ (Nat.zero_le _) hl] at this
    cases this
  · rw [h1, least_hit h3 (by rw [← hpq _ h3]; exact h4) (fun i hi => by rw [← hpq i (by omega)]; exact h5 i (Nat.zero_le _) hi)]

end Go.Proofs.YtlamhfbdeinkkaeGreat.Sh
/- The walk of the reference's CheckShip. -/
namespace Go.Proofs.YtlamhfbdeinkkaeGreat.Sh
open Go.RowKit
set_option linter.unusedSimpArgs false
set_option linter.unusedVariables false
set_option linter.unnecessarySimpa false

theorem CatsAt.all {w : World} {ao : Option Addr} {cap : Nat} {l : List Cat} (h : CatsAt w ao cap l) (h0 : 0 < l.length) : ∃ b off, ao = some ⟨b, off, none⟩ ∧ ∀ k (hk : k < l.length), ∃ hao hcap, w.cell? ⟨b, off + k * 2, none⟩ = some (.string l[k].1) ∧ w.cell? ⟨b, off + k * 2 + 1, none⟩ = some (.slice hao l[k].2.length hcap) ∧ IntsAt w hao hcap l[k].2 ∧ l[k].1.size ≤ maxLen := by
  obtain ⟨b, off, rfl, _, hc⟩ := h.cells h0
  refine ⟨b, off, rfl, fun k hk => ?_⟩
  obtain ⟨cs, ⟨hao, hcap, e, h1, h2⟩, _, h3⟩ := hc k hk
  subst e
  exact ⟨hao, hcap, by simpa using h3 0 _ rfl, by simpa using h3 1 _ rfl, h1, h2⟩
theorem CabsAt.all {w : World} {ao : Option Addr} {cap : Nat} {l : List Cab} (h : CabsAt w ao cap l) (h0 : 0 < l.length) : ∃ b off, ao = some ⟨b, off, none⟩ ∧ ∀ k (hk : k < l.length), w.cell? ⟨b, off + k * 4, none⟩ = some (.string l[k].1) ∧ w.cell? ⟨b, off + k * 4 + 1, none⟩ = some (.int .i64 l[k].2.1) ∧ w.cell? ⟨b, off + k * 4 + 2, none⟩ = some (.int .i64 l[k].2.2.1) ∧ w.cell? ⟨b, off + k * 4 + 3, none⟩ = some (.bool l[k].2.2.2) ∧ l[k].1.size ≤ maxLen := by
  obtain ⟨b, off, rfl, _, hc⟩ := h.cells h0
  refine ⟨b, off, rfl, fun k hk => ?_⟩
  obtain ⟨cs, ⟨e, h2⟩, _, h3⟩ := hc k hk
  subst e
  exact ⟨by simpa using h3 0 _ rfl, by simpa using h3 1 _ rfl, by simpa using h3 2 _ rfl, by simpa using h3 3 _ rfl, h2⟩

/-- The names ahead of i. -/
def P.names {β : Type} (l : List (ByteArray × β)) (i : Nat) : List ByteArray := (l.take i).map (·.1)
theorem names_succ {β : Type} {l : List (ByteArray × β)} {i : Nat} (hi : i < l.length) : P.names l (i + 1) = P.names l i ++ [l[i].1] := by
  unfold P.names
  rw [List.take_succ_eq_append_getElem hi, List.map_append]
  rfl
theorem names_has {β : Type} {l : List (ByteArray × β)} {i k : Nat} (hi : i ≤ l.length) (hk : k < i) {nm : ByteArray} (h : (l[k]'(by omega)).1 = nm) : P.hasName (P.names l i) nm = true := by
  unfold P.hasName P.names
  rw [List.any_eq_true]
  refine ⟨nm, ?_, by simp⟩
  rw [List.mem_map]
  exact ⟨l[k]'(by omega), by rw [List.mem_take_iff_getElem]; exact ⟨k, by omega, rfl⟩, h⟩
theorem names_not {β : Type} {l : List (ByteArray × β)} {i : Nat} (hi : i ≤ l.length) {nm : ByteArray} (h : ∀ k (hk : k < i), (l[k]'(by omega)).1 ≠ nm) : P.hasName (P.names l i) nm = false := by
  unfold P.hasName P.names
  rw [List.any_eq_false]
  intro x hx
  rw [List.mem_map] at hx
  obtain ⟨y, hy, rfl⟩ := hx
  rw [List.mem_take_iff_getElem] at hy
  obtain ⟨k, hk, rfl⟩ := hy
  simpa using h k (by omega)
theorem ints_has {l : List Int} {i k : Nat} (hi : i ≤ l.length) (hk : k < i) {x : Int} (h : l[k]'(by omega) = x) : P.hasInt (l.take i) x = true := by
  rw [hasInt_mem, List.mem_take_iff_getElem]
  exact ⟨k, by omega, h⟩
theorem ints_not {l : List Int} {i : Nat} (hi : i ≤ l.length) {x : Int} (h : ∀ k (hk : k < i), l[k]'(by omega) ≠ x) : P.hasInt (l.take i) x = false := by
  cases e : P.hasInt (l.take i) x with
  | false => rfl
  | true =>
    rw [hasInt_mem, List.mem_take_iff_getElem] at e
    obtain ⟨k, hk, e⟩ := e
    exact absurd e (h k (by omega))

theorem cats_at {n : Int} {l : List Cat} {i : Nat} (hi : i < l.length) : P.cats n (P.names l i) (l.drop i) = (if P.meetE (P.names l i) l[i].1 = 0 then (if P.high n [] l[i].2 = 0 then P.cats n (P.names l (i + 1)) (l.drop (i + 1)) else P.high n [] l[i].2) else P.meetE (P.names l i) l[i].1) := by
  rw [List.drop_eq_getElem_cons hi, P.cats, names_succ hi]
theorem cabs_at {n : Int} {l : List Cab} {i : Nat} (hi : i < l.length) : P.cabs n (P.names l i) (l.drop i) = (if P.meetE (P.names l i) l[i].1 = 0 then (if (P.btw l[i].2.1 0 (n - 1) && P.btw l[i].2.2.1 1 4) = true then P.cabs n (P.names l (i + 1)) (l.drop (i + 1)) else 3) else P.meetE (P.names l i) l[i].1) := by
  rw [List.drop_eq_getElem_cons hi, P.cabs, names_succ hi]
theorem high_at {n : Int} {l : List Int} {i : Nat} (hi : i < l.length) : P.high n (l.take i) (l.drop i) = (if P.btw l[i] 0 (n - 1) = true then (if P.hasInt (l.take i) l[i] = true then 6 else P.high n (l.take (i + 1)) (l.drop (i + 1))) else 3) := by
  rw [List.drop_eq_getElem_cons hi, P.high, List.take_succ_eq_append_getElem hi]

end Go.Proofs.YtlamhfbdeinkkaeGreat.Sh
set_option maxRecDepth 10000
/- The walk of the reference's CheckShip. -/
namespace Go.Proofs.YtlamhfbdeinkkaeGreat.Sh
open Go.RowKit
set_option linter.unusedSimpArgs false
set_option linter.unusedVariables false
set_option linter.unnecessarySimpa false

theorem bytes_ne {a b : ByteArray} (h : ¬ a = b) : (a.toList == b.toList) = false := by
  rw [beq_eq_false_iff_ne]
  intro e
  rw [ByteArray.toList_eq, ByteArray.toList_eq] at e
  exact h (ByteArray.ext (Array.toList_inj.1 e))

theorem meet_form {l : List ByteArray} {s : ByteArray} (h : P.name s = false) : P.meetE l s = 1 := by rw [P.meetE, if_neg (by simp [h])]
theorem meet_twice {l : List ByteArray} {s : ByteArray} (h : P.name s = true) (h2 : P.hasName l s = true) : P.meetE l s = 6 := by rw [P.meetE, if_pos h, if_pos h2]
theorem meet_ok {l : List ByteArray} {s : ByteArray} (h : P.name s = true) (h2 : P.hasName l s = false) : P.meetE l s = 0 := by rw [P.meetE, if_pos h, if_neg (by simp [h2])]

set_option maxRecDepth 100000 in
set_option maxHeartbeats 8000000 in
theorem refCheck_in (legs souls : Int) (cao bao : Option Addr) (cc bc : Nat) (cs : List Cat) (bs : List Cab) (w : World) (hs : ShipAt w cao bao cc bc cs bs) (h0 : P.sizeE legs souls cs.length bs.length = 0) :
    Calls Tryz.prog 72 #[.agg #[.int .i64 legs, .int .i64 souls, .slice cao cs.length cc, .slice bao bs.length bc]] w fun e w' => e = .returned (.int .i64 (P.shipE legs souls cs bs)) ∧ Below w.heap.size w w' := by
  have HE : Aside (P.shipE legs souls cs bs = (if P.cats cs.length [] cs = 0 then (if P.circle cs = true then 4 else P.cabs cs.length [] bs) else P.cats cs.length [] cs)) := by show _ = _; rw [P.shipE, if_pos h0]
  obtain ⟨hl1, hl7, hs1, hs60, hn1, hn5, hb1, hb12⟩ := size_ok h0
  have t1 : P.btw legs 1 7 = true := by simp [P.btw]; omega
  have t2 : P.btw souls 1 60 = true := by simp [P.btw]; omega
  have HS : Aside (ShipAt w cao bao cc bc cs bs) := hs
  obtain ⟨cb, co, rfl, hcg⟩ := CatsAt.all hs.cats (by omega)
  obtain ⟨db, dof, rfl, hdg⟩ := CabsAt.all hs.cabs (by omega)
  have HCG : Aside _ := hcg
  have HDG : Aside _ := hdg
  clear hs h0 hcg hdg hl1 hl7 hs1 hs60
  have e1 : decide ((5 : Int) < (cs.length : Int)) = false := decide_eq_false (by omega)
  have e2 : decide ((12 : Int) < (bs.length : Int)) = false := decide_eq_false (by omega)
  have e3 : ((cs.length : Int) == 0) = false := beq_eq_false_iff_ne.2 (by omega)
  have e4 : ((bs.length : Int) == 0) = false := beq_eq_false_iff_ne.2 (by omega)
  go_enter Tryz.func72, Tryz.ntmps72
  go_wp2_with (go_at_call 74; refine (between2_any _ _ _ _).mono ?_; rintro e w1 ⟨rfl, rfl⟩; first | rw [t1] | rw [t2])
  clear e1 e2 e3 e4
  go_loopg [3] cs.length (fun m iv wx => ∃ (i : Nat), i ≤ cs.length ∧ m = cs.length - i ∧ iv = .int .i64 i ∧ Aside (P.cats cs.length (P.names cs i) (cs.drop i) = P.cats cs.length [] cs) ∧ wx.cell? ⟨w.heap.size, 0, none⟩ = some (.int .i64 legs) ∧ wx.cell? ⟨w.heap.size, 1, none⟩ = some (.int .i64 souls) ∧ wx.cell? ⟨w.heap.size, 2, none⟩ = some (.slice (some ⟨cb, co, none⟩) cs.length cc) ∧ wx.cell? ⟨w.heap.size, 3, none⟩ = some (.slice (some ⟨db, dof, none⟩) bs.length bc) ∧ Below w.heap.size w wx)
  case atStart => exact ⟨0, Nat.zero_le _, rfl, rfl, rfl, by simp, by simp, by simp, by simp, by go_grown⟩
  case round =>
    obtain ⟨i, hi, rfl, rfl, HC, c0, c1, c2, c3, hB⟩ := hrel
    by_cases hil : i < cs.length
    · obtain ⟨hao, hcap, k0, k1, hin, hsz⟩ := HCG.out i hil
      have k0' := cellIn hB k0
      have k1' := cellIn hB k1
      have i0 : (0 : Int) ≤ i := by omega
      have i1 : (i : Int) < cs.length := by omega
      have HAT := cats_at (n := cs.length) hil
      have HA : Aside (P.cats cs.length [] cs = (if P.meetE (P.names cs i) cs[i].1 = 0 then (if P.high cs.length [] cs[i].2 = 0 then P.cats cs.length (P.names cs (i + 1)) (cs.drop (i + 1)) else P.high cs.length [] cs[i].2) else P.meetE (P.names cs i) cs[i].1)) := HC.out.symm.trans HAT
      clear HAT HC k0 k1
      generalize hnm : cs[i].1 = nm at k0' hsz
      generalize hhl : cs[i].2 = hl at k1' hin
      rw [hnm, hhl] at HA
      have HNM : Aside (cs[i].1 = nm ∧ cs[i].2 = hl) := ⟨hnm, hhl⟩
      clear hnm hhl
      cases hname : P.name nm
      · have HV : Aside (P.shipE legs souls cs (bs) = 1) := by
          show _ = _
          rw [HE.out, HA.out, meet_form hname]; simp
        go_wp2_with (go_at_call 125; refine (refName_any nm _ hsz).mono ?_; rintro e w1 ⟨rfl, rfl⟩; rw [hname])
        go_ret
        exact ⟨ret_int HV.out.symm, bvia hB (by go_grown)⟩
      · go_wp2_with (go_at_call 125; refine (refName_any nm _ hsz).mono ?_; rintro e w1 ⟨rfl, rfl⟩; rw [hname])
        have z0 : (wr.alloc (.cells #[.string nm, .slice hao hl.length hcap] 141)).cell? ⟨wr.heap.size, 0, none⟩ = some (.string nm) := by simp
        have z1 : (wr.alloc (.cells #[.string nm, .slice hao hl.length hcap] 141)).cell? ⟨wr.heap.size, 1, none⟩ = some (.slice hao hl.length hcap) := by simp
        have z2 : Below wr.heap.size wr (wr.alloc (.cells #[.string nm, .slice hao hl.length hcap] 141)) := by go_grown
        generalize wr.alloc (.cells #[.string nm, .slice hao hl.length hcap] 141) = wy at z0 z1 z2 ⊢
        have y0 := cellIn z2 c0
        have y1 := cellIn z2 c1
        have y2 := cellIn z2 c2
        have y3 := cellIn z2 c3
        have hBy := bvia hB z2
        clear c0 c1 c2 c3 k0' k1' hB z2
        go_loopg [5] i (fun m kv wx => ∃ (k : Nat), k ≤ i ∧ m = i - k ∧ kv = .int .i64 k ∧ Aside (∀ j (hj : j < k) (hj' : j < cs.length), cs[j].1 ≠ nm) ∧ Below wy.heap.size wy wx)
        case atStart => exact ⟨0, Nat.zero_le _, rfl, rfl, fun j hj => by omega, Below.refl _ _⟩
        case round =>
          obtain ⟨k, hk, rfl, rfl, HK, hBx⟩ := hrel
          by_cases hkl : k < i
          · have x0 := cellIn hBx z0
            have x2 := cellIn hBx y2
            obtain ⟨_, _, n0, _⟩ := HCG.out k (by omega)
            have x4 := cellIn hBx (cellIn hBy n0)
            clear n0
            have p0 : (0 : Int) ≤ k := by omega
            have p1 : (k : Int) < cs.length := by omega
            generalize hnk : (cs[k]'(by omega)).1 = nk at x4
            by_cases e : nk = nm
            · subst e
              have HV : Aside (P.shipE legs souls cs bs = 6) := by
                show _ = _
                rw [HE.out, HA.out, meet_twice hname (names_has (by omega) hkl hnk)]; simp
              clear hnk
              go_wp2
              go_quiet (fail)
              go_wp2
              go_ret
              exact ⟨ret_int HV.out.symm, bvia hBy (below_drewN hBx _)⟩
            · have HK2 : Aside (∀ j (hj : j < k + 1) (hj' : j < cs.length), cs[j].1 ≠ nm) := fun j hj hj' => by
                rcases Nat.lt_succ_iff_lt_or_eq.1 hj with h | rfl
                · exact HK.out j h hj'
                · rw [hnk]; exact e
              have f2 : (nk.toList == nm.toList) = false := bytes_ne e
              clear hnk
              go_wp2
              go_quiet (fail)
              go_wp2
              go_roundg (i - (k + 1))
              case measure => omega
              case rel => exact ⟨k + 1, by omega, rfl, by go_num, HK2, below_drewN hBx _⟩
          · obtain rfl : k = i := by omega
            have HN : Aside (P.meetE (P.names cs k) nm = 0) := meet_ok hname (names_not (by omega) (fun j hj => HK.out j hj (by omega)))
            clear HK
            go_wp2
            go_loopg [6] hl.length (fun m kv wx => ∃ (j : Nat), j ≤ hl.length ∧ m = hl.length - j ∧ kv = .int .i64 j ∧ Aside (P.high cs.length (hl.take j) (hl.drop j) = P.high cs.length [] hl) ∧ Below wy.heap.size wy wx)
            case atStart => exact ⟨0, Nat.zero_le _, rfl, rfl, rfl, hBx⟩
            case round =>
              clear hBx
              obtain ⟨j, hj, rfl, rfl, HJ, hBx⟩ := hrel
              have x1 := cellIn hBx z1
              have x2 := cellIn hBx y2
              have hhl := hin.le
              have hhm := hin.max
              unfold maxLen at hhm
              by_cases hjl : j < hl.length
              · obtain ⟨b2, o2, h, rfl, hb2, hd2, hc2⟩ := IntsAt.get hin (bvia hBy hBx) j hjl
                have hej : hl[j] = h := by have h1 := List.drop_eq_getElem_cons hjl; rw [hd2] at h1; simp only [List.cons.injEq] at h1; exact h1.1.symm
                have HHA : Aside (P.high cs.length [] hl = (if P.btw h 0 ((cs.length : Int) - 1) = true then (if P.hasInt (hl.take j) h = true then 6 else P.high cs.length (hl.take (j + 1)) (hl.drop (j + 1))) else 3)) := by
                  have := HJ.out.symm.trans (high_at hjl)
                  rw [hej] at this
                  exact this
                have HEJ : Aside (hl[j] = h) := hej
                clear hd2 hej HJ
                have p0 : (0 : Int) ≤ j := by omega
                have p1 : (j : Int) < hl.length := by omega
                by_cases a1 : h < 0
                · have HV : Aside (P.shipE legs souls cs bs = 3) := by
                    have hb : P.btw h 0 ((cs.length : Int) - 1) = false := by simp [P.btw]; omega
                    show _ = _
                    rw [HE.out, HA.out, HN.out, HHA.out, hb]; simp
                  have f1 : decide (h < 0) = true := decide_eq_true a1
                  go_wp2
                  go_quiet (fail)
                  go_wp2
                  go_ret
                  exact ⟨ret_int HV.out.symm, bvia hBy (below_drewN hBx _)⟩
                · by_cases a2 : (cs.length : Int) ≤ h
                  · have HV : Aside (P.shipE legs souls cs bs = 3) := by
                      have hb : P.btw h 0 ((cs.length : Int) - 1) = false := by simp [P.btw]; omega
                      show _ = _
                      rw [HE.out, HA.out, HN.out, HHA.out, hb]; simp
                    have f1 : decide (h < 0) = false := decide_eq_false a1
                    go_wp2
                    go_quiet (fail)
                    go_wp2
                    go_ret
                    exact ⟨ret_int HV.out.symm, bvia hBy (below_drewN hBx _)⟩
                  · have HB : Aside (P.btw h 0 ((cs.length : Int) - 1) = true) := by show _ = _; simp [P.btw]; omega
                    have f1 : decide (h < 0) = false := decide_eq_false a1
                    have f2 : decide ((cs.length : Int) ≤ h) = false := decide_eq_false a2
                    go_wp2
                    go_quiet (fail)
                    go_wp2
                    go_loopg [7] j (fun m kv wx => ∃ (q : Nat), q ≤ j ∧ m = j - q ∧ kv = .int .i64 q ∧ Aside (∀ r (hr : r < q) (hr' : r < hl.length), hl[r] ≠ h) ∧ Below wy.heap.size wy wx)
                    case atStart => exact ⟨0, Nat.zero_le _, rfl, rfl, fun r hr => by omega, below_drewN hBx _⟩
                    case round =>
                      clear x1 x2 hc2 hBx
                      obtain ⟨q, hq, rfl, rfl, HQ, hBx⟩ := hrel
                      by_cases hql : q < j
                      · have x1 := cellIn hBx z1
                        obtain ⟨b3, o3, hx, e3, _, hd3, hc3⟩ := IntsAt.get hin (bvia hBy hBx) q (by omega)
                        obtain ⟨b4, o4, hy, e4, _, hd4, hc4⟩ := IntsAt.get hin (bvia hBy hBx) j (by omega)
                        simp only [Option.some.injEq, Addr.mk.injEq] at e3 e4
                        obtain ⟨rfl, rfl, _⟩ := e3
                        obtain ⟨rfl, rfl, _⟩ := e4
                        have hexq : (hl[q]'(by omega)) = hx := by have h1 := List.drop_eq_getElem_cons (show q < hl.length by omega); rw [hd3] at h1; simp only [List.cons.injEq] at h1; exact h1.1.symm
                        have hexj : hy = h := by have h1 := List.drop_eq_getElem_cons hjl; rw [hd4] at h1; simp only [List.cons.injEq] at h1; rw [h1.1]; exact HEJ.out
                        subst hexj
                        clear hd3 hd4
                        have r0 : (0 : Int) ≤ q := by omega
                        have r1 : (q : Int) < hl.length := by omega
                        by_cases e : hx = hy
                        · subst e
                          have HV : Aside (P.shipE legs souls cs bs = 6) := by
                            show _ = _
                            rw [HE.out, HA.out, HN.out, HHA.out, HB.out, ints_has (by omega) hql hexq]; simp
                          clear hexq
                          go_wp2
                          go_quiet (fail)
                          go_wp2
                          go_ret
                          exact ⟨ret_int HV.out.symm, bvia hBy (below_drewN hBx _)⟩
                        · have HQ2 : Aside (∀ r (hr : r < q + 1) (hr' : r < hl.length), hl[r] ≠ hy) := fun r hr hr' => by
                            rcases Nat.lt_succ_iff_lt_or_eq.1 hr with h | rfl
                            · exact HQ.out r h hr'
                            · rw [hexq]; exact e
                          have g1 : (hx == hy) = false := beq_eq_false_iff_ne.2 e
                          clear hexq
                          go_wp2
                          go_quiet (fail)
                          go_wp2
                          go_roundg (j - (q + 1))
                          case measure => omega
                          case rel => exact ⟨q + 1, by omega, rfl, by go_num, HQ2, below_drewN hBx _⟩
                      · obtain rfl : q = j := by omega
                        have HJ2 : Aside (P.high cs.length (hl.take (q + 1)) (hl.drop (q + 1)) = P.high cs.length [] hl) := by
                          show _ = _
                          rw [HHA.out, if_pos HB.out, if_neg (by rw [ints_not (by omega) (fun r hr => HQ.out r hr (by omega))]; simp)]
                        go_wp2
                        go_roundg (hl.length - (q + 1))
                        case measure => omega
                        case rel => exact ⟨q + 1, by omega, rfl, by go_num, HJ2, hBx⟩
              · obtain rfl : j = hl.length := by omega
                have HZ : Aside (P.high cs.length [] hl = 0) := by
                  show _ = _
                  rw [← HJ.out, List.drop_of_length_le (Nat.le_refl _)]
                  rfl
                have HC2 : Aside (P.cats cs.length (P.names cs (k + 1)) (cs.drop (k + 1)) = P.cats cs.length [] cs) := by
                  show _ = _
                  rw [HA.out, if_pos HN.out, if_pos HZ.out]
                go_wp2
                go_roundg (cs.length - (k + 1))
                case measure => omega
                case rel => exact ⟨k + 1, by omega, rfl, by go_num, HC2, cellIn hBx y0, cellIn hBx y1, cellIn hBx y2, cellIn hBx y3, bvia hBy hBx⟩
    · obtain rfl : i = cs.length := by omega
      have hz : P.cats cs.length [] cs = 0 := by
        rw [← HC.out, List.drop_of_length_le (Nat.le_refl _)]
        rfl
      have hh : ∀ c ∈ cs, ∀ h ∈ c.2, 0 ≤ h ∧ h < cs.length := fun c hc h hx => by have := high_ok (cats_ok hz c hc) h hx; omega
      have HE2 : Aside (P.shipE legs souls cs bs = (if P.some (fun i => P.war (P.rbase cs) cs.length i i) cs.length = true then 4 else P.cabs cs.length [] bs)) := by show _ = _; rw [HE.out, if_pos hz, circle_ref hh]
      have HHH : Aside (∀ c ∈ cs, ∀ h ∈ c.2, 0 ≤ h ∧ h < cs.length) := hh
      clear hz hh HC HE HCG
      go_wp2_with fail
      refine (serveTable_any legs souls _ _ _ _ cs bs _ (HS.out.below hB) hn1 hn5 HHH.out).mono ?_
      rintro e w5 ⟨g, cap, B, rfl, hT, hb5⟩
      have c0' := cellIn hb5 c0
      have c1' := cellIn hb5 c1
      have c2' := cellIn hb5 c2
      have c3' := cellIn hb5 c3
      have hB5 := bvia hB hb5
      clear c0 c1 c2 c3 hB hb5 HHH HS
      generalize P.war (P.rbase cs) cs.length = R at hT HE2
      have HT : Aside (TblAt w5 (wr.heap.size + 1) cs.length g B R) := hT
      clear hT
      go_wp2
      go_loopg [9] cs.length (fun m iv wx => ∃ (i : Nat), i ≤ cs.length ∧ m = cs.length - i ∧ iv = .int .i64 i ∧ Aside (∀ j, j < i → R j j = false) ∧ wx = w5)
      case atStart => exact ⟨0, Nat.zero_le _, rfl, rfl, fun j hj => by omega, rfl⟩
      case round =>
        obtain ⟨i, hi, rfl, rfl, HR, rfl⟩ := hrel
        by_cases hil : i < cs.length
        · have o1 := HT.out.out i hil
          have o2 := HT.out.get (i := i) (j := i) hil hil
          have p0 : (0 : Int) ≤ i := by omega
          have p1 : (i : Int) < cs.length := by omega
          cases hr : R i i
          · rw [hr] at o2
            have HR2 : Aside (∀ j, j < i + 1 → R j j = false) := fun j hj => by
              rcases Nat.lt_succ_iff_lt_or_eq.1 hj with h | rfl
              · exact HR.out j h
              · exact hr
            go_wp2
            go_roundg (cs.length - (i + 1))
            case measure => omega
            case rel => exact ⟨i + 1, by omega, rfl, by go_num, HR2, rfl⟩
          · rw [hr] at o2
            have HV : Aside (P.shipE legs souls cs bs = 4) := by
              show _ = _
              rw [HE2.out, (some_iff (fun i => R i i) _).2 ⟨i, hil, hr⟩]; simp
            clear hr
            go_wp2
            go_ret
            exact ⟨ret_int HV.out.symm, hB5⟩
        · obtain rfl : i = cs.length := by omega
          have HE3 : Aside (P.shipE legs souls cs bs = P.cabs cs.length [] bs) := by
            show _ = _
            rw [HE2.out]
            cases e : P.some (fun i => R i i) cs.length with
            | false => simp
            | true =>
              obtain ⟨j, hj, h⟩ := (some_iff _ _).1 e
              rw [HR.out j hj] at h
              cases h
          clear HE2 HR HT
          go_wp2
          go_loopg [10] bs.length (fun m iv wx => ∃ (i : Nat), i ≤ bs.length ∧ m = bs.length - i ∧ iv = .int .i64 i ∧ Aside (P.cabs cs.length (P.names bs i) (bs.drop i) = P.cabs cs.length [] bs) ∧ wx.cell? ⟨w.heap.size, 2, none⟩ = some (.slice (some ⟨cb, co, none⟩) cs.length cc) ∧ wx.cell? ⟨w.heap.size, 3, none⟩ = some (.slice (some ⟨db, dof, none⟩) bs.length bc) ∧ Below w.heap.size w wx)
          case atStart => exact ⟨0, Nat.zero_le _, rfl, rfl, rfl, c2', c3', hB5⟩
          case round =>
            clear c0' c1' c2' c3' hB5
            obtain ⟨i, hi, rfl, rfl, HC, c2, c3, hB⟩ := hrel
            by_cases hil : i < bs.length
            · obtain ⟨k0, k1, k2, k3, hsz⟩ := HDG.out i hil
              have k0' := cellIn hB k0
              have k1' := cellIn hB k1
              have k2' := cellIn hB k2
              have k3' := cellIn hB k3
              have i0 : (0 : Int) ≤ i := by omega
              have i1 : (i : Int) < bs.length := by omega
              have HA : Aside _ := HC.out.symm.trans (cabs_at (n := cs.length) hil)
              clear HC k0 k1 k2 k3
              generalize hnm : bs[i].1 = nm at k0' hsz
              generalize hca : bs[i].2.1 = ca at k1'
              generalize hbe : bs[i].2.2.1 = be at k2'
              generalize bs[i].2.2.2 = lv at k3'
              rw [hnm, hca, hbe] at HA
              have HNM : Aside (bs[i].1 = nm) := hnm
              clear hnm hca hbe
              cases hname : P.name nm
              · have HV : Aside (P.shipE legs souls cs bs = 1) := by
                  show _ = _
                  rw [HE3.out, HA.out, meet_form hname]; simp
                go_wp2_with (go_at_call 125; refine (refName_any nm _ hsz).mono ?_; rintro e w1 ⟨rfl, rfl⟩; rw [hname])
                go_ret
                exact ⟨ret_int HV.out.symm, bvia hB (by go_grown)⟩
              · go_wp2_with (go_at_call 125; refine (refName_any nm _ hsz).mono ?_; rintro e w1 ⟨rfl, rfl⟩; rw [hname])
                have z0 : (wr.alloc (.cells #[.string nm, .int .i64 ca, .int .i64 be, .bool lv] 135)).cell? ⟨wr.heap.size, 0, none⟩ = some (.string nm) := by simp
                have z1 : (wr.alloc (.cells #[.string nm, .int .i64 ca, .int .i64 be, .bool lv] 135)).cell? ⟨wr.heap.size, 1, none⟩ = some (.int .i64 ca) := by simp
                have z3 : (wr.alloc (.cells #[.string nm, .int .i64 ca, .int .i64 be, .bool lv] 135)).cell? ⟨wr.heap.size, 2, none⟩ = some (.int .i64 be) := by simp
                have z2 : Below wr.heap.size wr (wr.alloc (.cells #[.string nm, .int .i64 ca, .int .i64 be, .bool lv] 135)) := by go_grown
                generalize wr.alloc (.cells #[.string nm, .int .i64 ca, .int .i64 be, .bool lv] 135) = wy at z0 z1 z2 z3 ⊢
                have y2 := cellIn z2 c2
                have y3 := cellIn z2 c3
                have hBy := bvia hB z2
                clear c2 c3 k0' k1' k2' k3' hB z2
                go_loopg [12] i (fun m kv wx => ∃ (k : Nat), k ≤ i ∧ m = i - k ∧ kv = .int .i64 k ∧ Aside (∀ j (hj : j < k) (hj' : j < bs.length), bs[j].1 ≠ nm) ∧ Below wy.heap.size wy wx)
                case atStart => exact ⟨0, Nat.zero_le _, rfl, rfl, fun j hj => by omega, Below.refl _ _⟩
                case round =>
                  obtain ⟨k, hk, rfl, rfl, HK, hBx⟩ := hrel
                  by_cases hkl : k < i
                  · have x0 := cellIn hBx z0
                    have x3 := cellIn hBx y3
                    obtain ⟨n0, _⟩ := HDG.out k (by omega)
                    have x4 := cellIn hBx (cellIn hBy n0)
                    clear n0
                    have p0 : (0 : Int) ≤ k := by omega
                    have p1 : (k : Int) < bs.length := by omega
                    generalize hnk : (bs[k]'(by omega)).1 = nk at x4
                    by_cases e : nk = nm
                    · subst e
                      have HV : Aside (P.shipE legs souls cs bs = 6) := by
                        show _ = _
                        rw [HE3.out, HA.out, meet_twice hname (names_has (by omega) hkl hnk)]; simp
                      clear hnk
                      go_wp2
                      go_quiet (fail)
                      go_wp2
                      go_ret
                      exact ⟨ret_int HV.out.symm, bvia hBy (below_drewN hBx _)⟩
                    · have HK2 : Aside (∀ j (hj : j < k + 1) (hj' : j < bs.length), bs[j].1 ≠ nm) := fun j hj hj' => by
                        rcases Nat.lt_succ_iff_lt_or_eq.1 hj with h | rfl
                        · exact HK.out j h hj'
                        · rw [hnk]; exact e
                      have f2 : (nk.toList == nm.toList) = false := bytes_ne e
                      clear hnk
                      go_wp2
                      go_quiet (fail)
                      go_wp2
                      go_roundg (i - (k + 1))
                      case measure => omega
                      case rel => exact ⟨k + 1, by omega, rfl, by go_num, HK2, below_drewN hBx _⟩
                  · obtain rfl : k = i := by omega
                    have HN : Aside (P.meetE (P.names bs k) nm = 0) := meet_ok hname (names_not (by omega) (fun j hj => HK.out j hj (by omega)))
                    clear HK
                    have x1 := cellIn hBx z1
                    have x2 := cellIn hBx y2
                    have x5 := cellIn hBx z3
                    by_cases a1 : ca < 0
                    · have HV : Aside (P.shipE legs souls cs bs = 3) := by
                        have hb : P.btw ca 0 ((cs.length : Int) - 1) = false := by simp [P.btw]; omega
                        show _ = _
                        rw [HE3.out, HA.out, HN.out, hb]; simp
                      have f1 : decide (ca < 0) = true := decide_eq_true a1
                      go_wp2
                      go_ret
                      exact ⟨ret_int HV.out.symm, bvia hBy hBx⟩
                    · have f1 : decide (ca < 0) = false := decide_eq_false a1
                      by_cases a2 : (cs.length : Int) ≤ ca
                      · have HV : Aside (P.shipE legs souls cs bs = 3) := by
                          have hb : P.btw ca 0 ((cs.length : Int) - 1) = false := by simp [P.btw]; omega
                          show _ = _
                          rw [HE3.out, HA.out, HN.out, hb]; simp
                        have f2 : decide ((cs.length : Int) ≤ ca) = true := decide_eq_true a2
                        go_wp2
                        go_ret
                        exact ⟨ret_int HV.out.symm, bvia hBy hBx⟩
                      · have f2 : decide ((cs.length : Int) ≤ ca) = false := decide_eq_false a2
                        have hb : P.btw ca 0 ((cs.length : Int) - 1) = true := by simp [P.btw]; omega
                        have HB : Aside (P.btw ca 0 ((cs.length : Int) - 1) = true) := hb
                        clear hb
                        cases hbe : P.btw be 1 4
                        · have HV : Aside (P.shipE legs souls cs bs = 3) := by
                            show _ = _
                            rw [HE3.out, HA.out, HN.out, HB.out, hbe]; simp
                          go_wp2_with (go_at_call 74; refine (between2_any _ _ _ _).mono ?_; rintro e w6 ⟨rfl, rfl⟩; rw [hbe])
                          go_ret
                          exact ⟨ret_int HV.out.symm, bvia hBy hBx⟩
                        · have HC2 : Aside (P.cabs cs.length (P.names bs (k + 1)) (bs.drop (k + 1)) = P.cabs cs.length [] bs) := by
                            show _ = _
                            rw [HA.out, if_pos HN.out, HB.out, hbe]; simp
                          go_wp2_with (go_at_call 74; refine (between2_any _ _ _ _).mono ?_; rintro e w6 ⟨rfl, rfl⟩; rw [hbe])
                          go_roundg (bs.length - (k + 1))
                          case measure => omega
                          case rel => exact ⟨k + 1, by omega, rfl, by go_num, HC2, x2, cellIn hBx y3, bvia hBy hBx⟩
            · obtain rfl : i = bs.length := by omega
              have HV : Aside (P.shipE legs souls cs bs = 0) := by
                show _ = _
                rw [HE3.out, ← HC.out, List.drop_of_length_le (Nat.le_refl _)]
                rfl
              go_wp2
              go_ret
              exact ⟨ret_int HV.out.symm, hB⟩

end Go.Proofs.YtlamhfbdeinkkaeGreat.Sh
/- The walk of the reference's OrderOf. -/
namespace Go.Proofs.YtlamhfbdeinkkaeGreat.Sh
open Go.RowKit
set_option linter.unusedSimpArgs false
set_option linter.unusedVariables false
set_option linter.unnecessarySimpa false

theorem TblAt.blocks {w w' : World} {base n g : Nat} {B : Nat → Nat} {T : Tab} (h : TblAt w base n g B T) (hg : w'.heap[g]? = w.heap[g]?) (hb : ∀ i, i < n → w'.heap[B i]? = w.heap[B i]?) : TblAt w' base n g B T :=
  ⟨h.lo, h.rlo, h.inj, fun i hi => (World.cell?_of_block (a := ⟨g, i, none⟩) hg).trans (h.out i hi), fun i hi => (h.row i hi).of_block (hb i hi)⟩

theorem hasInt_snoc (l : List Int) (x y : Int) : P.hasInt (l ++ [x]) y = (P.hasInt l y || decide (x = y)) := by simp [P.hasInt, List.any_append]

end Go.Proofs.YtlamhfbdeinkkaeGreat.Sh
/- The walks of the reference's CheckShip (whatever its sizes) and DoesServe, and of the law ShipTells. -/
namespace Go.Proofs.YtlamhfbdeinkkaeGreat.Sh
open Go.RowKit
set_option linter.unusedSimpArgs false
set_option linter.unusedVariables false
set_option linter.unnecessarySimpa false

set_option maxRecDepth 100000 in
set_option maxHeartbeats 4000000 in
theorem refCheck_any (legs souls : Int) (cao bao : Option Addr) (cc bc : Nat) (cs : List Cat) (bs : List Cab) (w : World) (hs : ShipAt w cao bao cc bc cs bs) :
    Calls Tryz.prog 72 #[.agg #[.int .i64 legs, .int .i64 souls, .slice cao cs.length cc, .slice bao bs.length bc]] w fun e w' => e = .returned (.int .i64 (P.shipE legs souls cs bs)) ∧ Below w.heap.size w w' := by
  by_cases h0 : P.sizeE legs souls cs.length bs.length = 0
  · exact refCheck_in legs souls cao bao cc bc cs bs w hs h0
  · have hE : P.shipE legs souls cs bs = P.sizeE legs souls cs.length bs.length := by rw [P.shipE, if_neg h0]
    rw [hE]
    generalize cs.length = nc at h0
    generalize bs.length = nb at h0
    have H0 : Aside (¬ P.sizeE legs souls nc nb = 0) := h0
    clear hE hs h0
    cases h1 : P.btw legs 1 7
    · have HE : Aside (P.sizeE legs souls nc nb = 3) := by show _ = _; rw [P.sizeE, h1]; rfl
      go_enter Tryz.func72, Tryz.ntmps72
      go_wp2_with (go_at_call 74; refine (between2_any _ _ _ _).mono ?_; rintro e w2 ⟨rfl, rfl⟩; rw [h1])
      go_ret
      exact ⟨ret_int HE.out.symm, by go_grown⟩
    · cases h2 : P.btw souls 1 60
      · have HE : Aside (P.sizeE legs souls nc nb = 3) := by show _ = _; rw [P.sizeE, h1, h2]; rfl
        go_enter Tryz.func72, Tryz.ntmps72
        go_wp2_with (go_at_call 74; refine (between2_any _ _ _ _).mono ?_; rintro e w2 ⟨rfl, rfl⟩; first | rw [h1] | rw [h2])
        go_ret
        exact ⟨ret_int HE.out.symm, by go_grown⟩
      · have HE : Aside (P.sizeE legs souls nc nb = (if (decide (5 < nc) || decide (12 < nb)) = true then 2 else if (decide (nc = 0) || decide (nb = 0)) = true then 5 else 0)) := by show _ = _; rw [P.sizeE, h1, h2]; rfl
        have fin : ∀ {x : Int}, (if (decide (5 < nc) || decide (12 < nb)) = true then 2 else if (decide (nc = 0) || decide (nb = 0)) = true then 5 else 0) = x → Aside (P.sizeE legs souls nc nb = x) := fun h => HE.out.trans h
        clear HE
        by_cases c1 : 5 < nc
        · have HF := fin (x := 2) (by simp [c1])
          clear fin
          have c1' : decide ((5 : Int) < (nc : Int)) = true := by simp; omega
          go_enter Tryz.func72, Tryz.ntmps72
          go_wp2_with (go_at_call 74; refine (between2_any _ _ _ _).mono ?_; rintro e w2 ⟨rfl, rfl⟩; first | rw [h1] | rw [h2])
          go_ret
          exact ⟨ret_int HF.out.symm, by go_grown⟩
        · have c1' : decide ((5 : Int) < (nc : Int)) = false := decide_eq_false (by omega)
          by_cases c2 : 12 < nb
          · have HF := fin (x := 2) (by simp [c2])
            clear fin
            have c2' : decide ((12 : Int) < (nb : Int)) = true := by simp; omega
            go_enter Tryz.func72, Tryz.ntmps72
            go_wp2_with (go_at_call 74; refine (between2_any _ _ _ _).mono ?_; rintro e w2 ⟨rfl, rfl⟩; first | rw [h1] | rw [h2])
            go_ret
            exact ⟨ret_int HF.out.symm, by go_grown⟩
          · have c2' : decide ((12 : Int) < (nb : Int)) = false := decide_eq_false (by omega)
            by_cases c3 : nc = 0
            · have HF := fin (x := 5) (by simp [c1, c2, c3])
              clear fin
              have c3' : ((nc : Int) == 0) = true := beq_iff_eq.2 (by omega)
              go_enter Tryz.func72, Tryz.ntmps72
              go_wp2_with (go_at_call 74; refine (between2_any _ _ _ _).mono ?_; rintro e w2 ⟨rfl, rfl⟩; first | rw [h1] | rw [h2])
              go_ret
              exact ⟨ret_int HF.out.symm, by go_grown⟩
            · have c3' : ((nc : Int) == 0) = false := beq_eq_false_iff_ne.2 (by omega)
              by_cases c4 : nb = 0
              · have HF := fin (x := 5) (by simp [c1, c2, c4])
                clear fin
                have c4' : ((nb : Int) == 0) = true := beq_iff_eq.2 (by omega)
                go_enter Tryz.func72, Tryz.ntmps72
                go_wp2_with (go_at_call 74; refine (between2_any _ _ _ _).mono ?_; rintro e w2 ⟨rfl, rfl⟩; first | rw [h1] | rw [h2])
                go_ret
                exact ⟨ret_int HF.out.symm, by go_grown⟩
              · exact absurd (fin (x := 0) (by simp [c1, c2, c3, c4])).out H0.out

set_option maxHeartbeats 1000000 in
theorem doesServe_any (legs souls : Int) (cao bao : Option Addr) (cc bc : Nat) (cs : List Cat) (bs : List Cab) (a b : Nat) (w : World) (hs : ShipAt w cao bao cc bc cs bs) (h0 : P.shipE legs souls cs bs = 0) (ha : a < cs.length) (hb : b < cs.length) :
    Calls Tryz.prog 144 #[.agg #[.int .i64 legs, .int .i64 souls, .slice cao cs.length cc, .slice bao bs.length bc], .int .i64 a, .int .i64 b] w fun e w' => e = .returned (.bool (P.war (P.base cs) cs.length a b)) ∧ Below w.heap.size w w' := by
  obtain ⟨hn1, hn5, hh, _⟩ := ship_facts h0
  have HH : Aside (∀ c ∈ cs, ∀ h ∈ c.2, 0 ≤ h ∧ h < cs.length) := hh
  have HV : Aside (P.war (P.base cs) cs.length a b = ((decide (a = b) && decide (b < cs.length)) || P.war (P.rbase cs) cs.length a b)) := war_split cs _ a b
  clear hh h0
  by_cases e : a = b
  · subst e
    have HW : Aside (P.war (P.base cs) cs.length a a = true) := by show _ = _; rw [HV.out]; simp [ha]
    go_enter Tryz.func144, Tryz.ntmps144
    go_wp2
    go_ret
    exact ⟨by first | exact ret_bool HW.out.symm | exact ret_bool rfl, by go_grown⟩
  · have HW : Aside (P.war (P.base cs) cs.length a b = P.war (P.rbase cs) cs.length a b) := by show _ = _; rw [HV.out]; simp [e]
    have e' : ((a : Int) == (b : Int)) = false := beq_eq_false_iff_ne.2 (by omega)
    have p0 : (0 : Int) ≤ a := by omega
    have p1 : (a : Int) < cs.length := by omega
    have p2 : (0 : Int) ≤ b := by omega
    have p3 : (b : Int) < cs.length := by omega
    go_enter Tryz.func144, Tryz.ntmps144
    go_wp2_with (go_at_call 126; refine (serveTable_any legs souls _ _ _ _ cs bs _ (hs.below (by go_grown)) hn1 hn5 HH.out).mono ?_; rintro e w1 ⟨g, cap, B, rfl, hT, hb1⟩; have o1 := hT.out a ha; have o2 := hT.get (i := a) (j := b) ha hb)
    go_ret
    exact ⟨ret_bool HW.out.symm, bvia (by go_grown) hb1⟩

end Go.Proofs.YtlamhfbdeinkkaeGreat.Sh
