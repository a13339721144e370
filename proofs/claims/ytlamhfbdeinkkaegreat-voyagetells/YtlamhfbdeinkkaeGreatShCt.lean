import Derived.Test.YtlamhfbdeinkkaeGreatShBt
import Derived.Deep.Onto
set_option maxRecDepth 10000
/- Order: its function literals. -/
namespace Go.Proofs.YtlamhfbdeinkkaeGreat.Sh
open Go.RowKit Go.Maps Go.WideMaps
set_option linter.unusedSimpArgs false
set_option linter.unusedVariables false

theorem ISet.below {w w' : World} {B : Nat} {l : List Int} (h : ISet w B l) (hb : Below w.heap.size w w') : ISet w' B l :=
  World.ownsMap.kept h (row := none) ⟨hb.os, hb.tape, hb.output, hb.size, fun k hk _ => hb.block k hk⟩ (by simp)

def P.bars (T : Tab) (l : List Int) (c o : Nat) : Bool := decide (o ≠ c) && (!P.hasInt l o && T o c)
def P.may (T : Tab) (n : Nat) (l : List Int) (c : Nat) : Bool := !P.hasInt l c && !P.some (P.bars T l c) n

end Go.Proofs.YtlamhfbdeinkkaeGreat.Sh
/- The walk of Order. -/
namespace Go.Proofs.YtlamhfbdeinkkaeGreat.Sh
open Go.RowKit Go.Maps Go.WideMaps
set_option linter.unusedSimpArgs false
set_option linter.unusedVariables false

/-- The value v is a slice of the call's own (blocks from base on) that holds the numbers l. -/
abbrev OwnI (w : World) (base : Nat) (v : Value) (l : List Int) : Prop := w.ownsRow base 3 1 v l.length (l.map (Value.int .i64))
theorem Tryz.infoInt : (Tryz.prog.info? 3).map (fun i => (i.zero, i.size, i.bytes)) = some (some (.int .i64 0), 1, 8) := by kernel_rfl

theorem OwnI.at {w : World} {base : Nat} {v : Value} {l : List Int} (h : OwnI w base v l) : ∃ ao cap, v = .slice ao l.length cap ∧ IntsAt w ao cap l := by
  rcases h.2 with ⟨rfl, h0⟩ | ⟨g, cap, cur, rfl, hb, hg, hn, hm, hs, ht⟩
  · refine ⟨none, 0, by rw [h0], by omega, by simp [maxLen], fun _ => rfl, by omega⟩
  · refine ⟨some ⟨g, 0, none⟩, cap, rfl, hn, hm, (fun h => by cases h), fun h0 => ⟨g, 0, rfl, ?_, fun i hi => ?_⟩⟩
    · rcases Nat.lt_or_ge g w.heap.size with hlt | hge
      · exact hlt
      · rw [Array.getElem?_eq_none hge] at hg; cases hg
    · refine ⟨[.int .i64 l[i]], rfl, rfl, fun j u hj => ?_⟩
      have k0 := World.ownsRow.cellAt h i (by omega)
      match j, hj with
      | 0, hj =>
        simp at hj
        subst hj
        simpa [hi] using k0

theorem OwnI.below {w w' : World} {base : Nat} {v : Value} {l : List Int} (h : OwnI w base v l) (hb : Below w.heap.size w w') : OwnI w' base v l := by
  refine ⟨h.1, ?_⟩
  rcases h.2 with h2 | ⟨g, cap, cur, hv, hg, hh, r⟩
  · exact Or.inl h2
  · refine Or.inr ⟨g, cap, cur, hv, hg, ?_, r⟩
    rw [hb.block g (Array.getElem?_eq_some_iff.1 hh).1]
    exact hh

theorem grownI_below {w W0 w' : World} {base : Nat} {v : Value} {l : List Int} (hB : Below w.heap.size w W0) (hown : OwnI W0 base v l) (hb : w.heap.size ≤ base) (hg : W0.grownBy w' v.ownBlock) : Below w.heap.size w w' :=
  hB.grown hg hB.size (fun j hj => Nat.le_trans hb (hown.lt j hj).1)

theorem news_one {w : World} (a : Int) (t : TypeId) : ∀ j u, ([.int .i64 a] : List Value)[j]? = some u → (w.alloc (.cells #[.int .i64 a] t)).cell? ((⟨w.heap.size, 0, none⟩ : Addr).add j) = some u := by
  intro j u hu
  match j, hu with
  | 0, hu => simp at hu; subst hu; simp [Addr.add]

theorem grownA {w w' : World} {o : Obj} {row : Option Nat} (h : (w.alloc o).grownBy w' row) : w.grownBy w' row :=
  ⟨h.os, h.tape, h.output, Nat.le_trans (by simp) h.size, fun k hk hr => (h.block k (by simp; omega) hr).trans (Below.heap_alloc w o k hk)⟩

/-- 'append(v, n)', n laid into a block of its own just ahead. -/
theorem wpList_append_int {ops : Array Oper} {rest : List Oper} {o : Oper} {a : Act} {Q : Exit → Act → World → Prop} {W0 : World} (hgd : o.guard = none) (s x : Operand)
    (ho : o.op = .call { callee := .builtin .append, args := #[s, x], argTypes := #[47, 47] }) (base : Nat) (v : Value) (l : List Int) (n : Int) (hs : a.eval s = v) (hown : OwnI W0 base v l)
    (hx : a.eval x = .slice (some ⟨W0.heap.size, 0, none⟩) 1 1) (hb : base ≤ W0.heap.size) (hn : l.length ≤ 1000000)
    (h : ∀ v' w', OwnI w' base v' (l ++ [n]) → W0.grownBy w' v.ownBlock → wpList Tryz.prog ops Q rest (a.put o.dst v') w') : wpList Tryz.prog ops Q (o :: rest) a (W0.alloc (.cells #[.int .i64 n] 3)) := by
  obtain ⟨i0, hi, hi0, hi1, hi2⟩ := info_parts Tryz.infoInt
  refine wpList_append_own _ hgd s x 47 ho base 3 i0 _ 1 8 Tryz.underlying47 hi hi0 hi1 hi2 rfl (by decide) v l.length (l.map (Value.int .i64)) hs (World.ownsRow.alloc hown _) ⟨W0.heap.size, 0, none⟩ 1 1 [.int .i64 n] hx rfl (news_one n _) (by simp; exact rfl) (by simp only [maxLen]; omega) (by omega) (by simp; omega) ?_
  intro v' w' h1 h2 _
  refine h v' w' ?_ (grownA h2)
  simpa [OwnI] using h1

def P.order (T : Tab) (n : Nat) : Nat → List Int → List Int
  | 0, l => l
  | f + 1, l => if P.least (P.may T n l) n < n then P.order T n f (l ++ [(P.least (P.may T n l) n : Int)]) else l
def P.orderL (legs souls : Int) (cs : List Cat) (bs : List Cab) : List Int := if P.shipE legs souls cs bs = 0 then P.order (P.war (P.base cs) cs.length) cs.length cs.length [] else []

theorem least_yes {p : Nat → Bool} {n : Nat} (h : P.least p n < n) : p (P.least p n) = true := by
  unfold P.least at *
  have h2 : (List.range n).findIdx p < (List.range n).length := by simpa using h
  have := List.findIdx_getElem (w := h2)
  simpa using this
theorem pigeon : ∀ (n : Nat) (l : List Int), l.Nodup → (∀ x ∈ l, 0 ≤ x ∧ x < (n : Int)) → l.length ≤ n := by
  intro n
  induction n with
  | zero =>
    intro l _ hl
    cases l with
    | nil => simp
    | cons y l => have := hl y (by simp); omega
  | succ n ih =>
    intro l hn hl
    by_cases hm : (n : Int) ∈ l
    · have := ih (l.erase n) (hn.erase _) (fun x hx => by
        have h3 := hl x (List.mem_of_mem_erase hx)
        have h4 : x ≠ n := by
          intro e
          rw [e] at hx
          exact hn.not_mem_erase hx
        omega)
      rw [List.length_erase_of_mem hm] at this
      omega
    · have := ih l hn (fun x hx => by
        have h3 := hl x hx
        have h4 : x ≠ n := fun e => hm (e ▸ hx)
        omega)
      omega
theorem hasInt_mem (l : List Int) (n : Int) : P.hasInt l n = true ↔ n ∈ l := by
  unfold P.hasInt
  rw [List.any_eq_true]
  constructor
  · rintro ⟨x, hx, h⟩; simp at h; exact h ▸ hx
  · intro h; exact ⟨n, h, by simp⟩

theorem below_none {w w' : World} (h : w.grownBy w' none) : Below w.heap.size w w' := ⟨h.os, h.tape, h.output, h.size, fun k hk => h.block k hk (by simp)⟩

end Go.Proofs.YtlamhfbdeinkkaeGreat.Sh
/- Walks of SameInts, vessel, shipBegun. -/
namespace Go.Proofs.YtlamhfbdeinkkaeGreat.Sh
open Go.RowKit Go.Maps Go.WideMaps
set_option linter.unusedSimpArgs false
set_option linter.unusedVariables false

theorem drop_eqI {a b : List Int} {s t : Int} {k : Nat} (ha : a.drop k = s :: a.drop (k + 1)) (hb : b.drop k = t :: b.drop (k + 1)) : a.drop k = b.drop k ↔ s = t ∧ a.drop (k + 1) = b.drop (k + 1) := by
  rw [ha, hb, List.cons.injEq]

set_option maxHeartbeats 1000000 in
theorem sameInts_any (ao bo : Option Addr) (ca cb : Nat) (a b : List Int) (w : World) (ha : IntsAt w ao ca a) (hb : IntsAt w bo cb b) :
    Calls Tryz.prog 39 #[.slice ao a.length ca, .slice bo b.length cb] w fun e w' => e = .returned (.bool (decide (a = b))) ∧ Below w.heap.size w w' := by
  have hle := ha.le
  have hmx := ha.max
  have hle' := hb.le
  have hmx' := hb.max
  unfold maxLen at hmx hmx'
  by_cases hlen : a.length = b.length
  · have HL : Aside (a.length = b.length) := hlen
    have hne : ((a.length : Int) != (b.length : Int)) = false := by simp [hlen]
    go_enter Tryz.func39, Tryz.ntmps39
    clear hlen
    go_wp2
    go_loopg [5] a.length (fun g i wr => ∃ (k : Nat), k ≤ a.length ∧ g = a.length - k ∧ i = .int .i64 k ∧ (a.drop k = b.drop k ↔ a = b) ∧ Below w.heap.size w wr)
    case atStart => exact ⟨0, Nat.zero_le _, rfl, rfl, Iff.rfl, Below.refl _ _⟩
    case round =>
      obtain ⟨k, hk, rfl, rfl, hP, hB⟩ := hrel
      have hBs := hB.size
      have HP : Aside (a.drop k = b.drop k ↔ a = b) := hP
      clear hP
      by_cases hlt : k < a.length
      · have hlt' : k < b.length := by have := HL.out; omega
        obtain ⟨b1, o1, f, rfl, hbw, hd, hc0⟩ := ha.get hB k hlt
        obtain ⟨b2, o2, f', rfl, hbw', hd', hc0'⟩ := hb.get hB k hlt'
        have HE : Aside (a.drop k = b.drop k ↔ f = f' ∧ a.drop (k + 1) = b.drop (k + 1)) := drop_eqI hd hd'
        clear hd hd'
        have hi1 : (k : Int) < (a.length : Int) := by omega
        have hi2 : (k : Int) < (b.length : Int) := by omega
        have hi3 : (0 : Int) ≤ (k : Int) := by omega
        by_cases e1 : f = f'
        · subst e1
          have HQ : Aside (a.drop (k + 1) = b.drop (k + 1) ↔ a = b) := by show _ ↔ _; rw [← HP.out, HE.out]; simp
          clear HE HP
          go_wp2
          go_quiet (fail)
          go_wp2
          go_roundg (a.length - (k + 1))
          case measure => omega
          case rel => exact ⟨k + 1, by omega, rfl, by go_num, HQ.out, below_drewN hB _⟩
        · have e1' : (f != f') = true := by simpa using e1
          have HN : Aside (decide (a = b) = false) := by
            rw [decide_eq_false_iff_not]; intro h; exact e1 (HE.out.1 (HP.out.2 h)).1
          clear HE HP
          go_wp2
          go_quiet (fail)
          go_wp2
          go_ret
          exact ⟨ret_bool HN.out.symm, below_drewN hB _⟩
      · have : k = a.length := by omega
        subst this
        go_wp2
        go_ret
        have hP := HP.out
        refine ⟨ret_bool ?_, hB⟩
        rw [List.drop_of_length_le (Nat.le_refl _), List.drop_of_length_le (by rw [HL.out]; exact Nat.le_refl _)] at hP
        simp [hP.1 rfl]
  · have hne : ((a.length : Int) != (b.length : Int)) = true := by rw [bne_iff_ne]; omega
    go_enter Tryz.func39, Tryz.ntmps39
    go_wp2
    go_ret
    exact ⟨ret_bool (by rw [eq_comm, decide_eq_false_iff_not]; intro h; exact hlen (by rw [h])), Below.refl _ _⟩

def vcats : List Cat := [(⟨#[73, 78]⟩, [1]), (⟨#[79, 85, 84]⟩, [2]), (⟨#[83, 85, 73, 84, 69]⟩, [])]
def vcabs : List Cab := [(⟨#[65, 49]⟩, 0, 2, false), (⟨#[66, 49]⟩, 1, 4, true), (⟨#[67, 49]⟩, 2, 2, false)]

def vesselObjs (n : Nat) : List Obj := [.cells #[.int .i64 3, .int .i64 6, .slice (some ⟨n + 1 + 1 + 1, 0, none⟩) 3 3, .slice (some ⟨n + 1 + 1 + 1 + 1, 0, none⟩) 3 3] 25, .cells #[.int .i64 1] 3, .cells #[.int .i64 2] 3,
  .cells #[.string ⟨#[73, 78]⟩, .slice (some ⟨n + 1, 0, none⟩) 1 1, .string ⟨#[79, 85, 84]⟩, .slice (some ⟨n + 1 + 1, 0, none⟩) 1 1, .string ⟨#[83, 85, 73, 84, 69]⟩, .slice none 0 0] 141,
  .cells #[.string ⟨#[65, 49]⟩, .int .i64 0, .int .i64 2, .bool false, .string ⟨#[66, 49]⟩, .int .i64 1, .int .i64 4, .bool true, .string ⟨#[67, 49]⟩, .int .i64 2, .int .i64 2, .bool false] 135]

end Go.Proofs.YtlamhfbdeinkkaeGreat.Sh
/- Plain facts on who serves whom, and on the order of categories. -/
namespace Go.Proofs.YtlamhfbdeinkkaeGreat.Sh
set_option linter.unusedSimpArgs false
set_option linter.unusedVariables false

theorem war_mono {T : Tab} {m a b : Nat} (h : P.war T m a b = true) : ∀ k, P.war T (m + k) a b = true := by
  intro k
  induction k with
  | zero => exact h
  | succ k ih =>
    rw [← Nat.add_assoc, P.war, P.step, ih]
    rfl
theorem war_le {T : Tab} {m n a b : Nat} (hmn : m ≤ n) (h : P.war T m a b = true) : P.war T n a b = true := by
  have := war_mono h (n - m)
  rwa [show m + (n - m) = n by omega] at this

theorem step_or {T : Tab} {m a b : Nat} : P.step T m a b = true ↔ T a b = true ∨ (T a m = true ∧ T m b = true) := by
  unfold P.step
  cases T a b <;> cases T a m <;> cases T m b <;> simp

theorem war_trans {T : Tab} : ∀ (m : Nat) {a b c : Nat}, c < m → P.war T m a c = true → P.war T m c b = true → P.war T m a b = true := by
  intro m
  induction m with
  | zero => intro a b c h; omega
  | succ m ih =>
    intro a b c hc h1 h2
    rw [P.war] at *
    rw [step_or] at *
    by_cases e : c = m
    · subst e
      have k1 : P.war T c a c = true := by rcases h1 with h | ⟨h, _⟩ <;> exact h
      have k2 : P.war T c c b = true := by rcases h2 with h | ⟨_, h⟩ <;> exact h
      exact .inr ⟨k1, k2⟩
    · have hc' : c < m := by omega
      rcases h1 with h1 | ⟨h1, h1'⟩ <;> rcases h2 with h2 | ⟨h2, h2'⟩
      · exact .inl (ih hc' h1 h2)
      · exact .inr ⟨ih hc' h1 h2, h2'⟩
      · exact .inr ⟨h1, ih hc' h1' h2⟩
      · exact .inr ⟨h1, h2'⟩

theorem serves_refl {l : List Cat} {a : Nat} (ha : a < l.length) (m : Nat) : P.war (P.base l) m a a = true :=
  war_le (Nat.zero_le m) (by show P.base l a a = true; simp [P.base, ha])

/-- The last step: who serves b, and is not b, serves one of b's Higher. -/
theorem serves_last {l : List Cat} (hh : ∀ c ∈ l, ∀ h ∈ c.2, 0 ≤ h ∧ h < l.length) : ∀ (m : Nat) {a b : Nat}, m ≤ l.length → a < l.length → b < l.length → P.war (P.base l) m a b = true →
    a = b ∨ ∃ h, h < l.length ∧ P.edge l h b = true ∧ P.war (P.base l) l.length a h = true := by
  intro m
  induction m with
  | zero =>
    intro a b _ ha hb h
    have h : P.base l a b = true := h
    unfold P.base at h
    simp [hb] at h
    rcases h with h | h
    · exact .inl h
    · exact .inr ⟨a, ha, h, serves_refl ha _⟩
  | succ m ih =>
    intro a b hm ha hb h
    rw [P.war, step_or] at h
    rcases h with h | ⟨h1, h2⟩
    · exact ih (by omega) ha hb h
    · rcases ih (by omega) (by omega : m < l.length) hb h2 with e | ⟨h, k1, k2, k3⟩
      · subst e
        exact ih (by omega) ha hb h1
      · exact .inr ⟨h, k1, k2, war_trans _ (by omega : m < l.length) (war_le (by omega) h1) k3⟩

theorem edge_mem {l : List Cat} {h b : Nat} (hb : b < l.length) (he : P.edge l h b = true) : (h : Int) ∈ (l.getD b (ByteArray.empty, [])).2 := by
  unfold P.edge at he
  rw [List.any_eq_true] at he
  obtain ⟨x, hx, e⟩ := he
  simp at e
  rw [← e]
  exact hx

theorem some_iff (p : Nat → Bool) (n : Nat) : P.some p n = true ↔ ∃ i, i < n ∧ p i = true := by
  unfold P.some
  rw [List.any_eq_true]
  constructor
  · rintro ⟨x, hx, h⟩; exact ⟨x, by simpa using hx, h⟩
  · rintro ⟨x, hx, h⟩; exact ⟨x, by simpa using hx, h⟩

theorem circle_iff {l : List Cat} : P.circle l = true ↔ ∃ i, i < l.length ∧ ∃ h ∈ (l.getD i (ByteArray.empty, [])).2, P.war (P.base l) l.length i h.toNat = true := by
  unfold P.circle
  rw [some_iff]
  constructor
  · rintro ⟨i, hi, h⟩
    unfold P.circAt at h
    rw [some_iff] at h
    obtain ⟨j, hj, h⟩ := h
    refine ⟨i, hi, (l.getD i (ByteArray.empty, [])).2.getD j 0, ?_, h⟩
    generalize (l.getD i (ByteArray.empty, [])).2 = hs at *
    rw [List.getD_eq_getElem?_getD, List.getElem?_eq_getElem hj]
    simp
  · rintro ⟨i, hi, h, hm, hw⟩
    refine ⟨i, hi, ?_⟩
    unfold P.circAt
    rw [some_iff]
    generalize (l.getD i (ByteArray.empty, [])).2 = hs at *
    obtain ⟨j, hj, e⟩ := List.getElem_of_mem hm
    refine ⟨j, hj, ?_⟩
    rw [List.getD_eq_getElem?_getD, List.getElem?_eq_getElem hj, Option.getD_some, e]
    exact hw

/-- No two serve one another. -/
theorem serves_anti {l : List Cat} (hh : ∀ c ∈ l, ∀ h ∈ c.2, 0 ≤ h ∧ h < l.length) (hc : P.circle l = false) {a b : Nat} (ha : a < l.length) (hb : b < l.length)
    (h1 : P.war (P.base l) l.length a b = true) (h2 : P.war (P.base l) l.length b a = true) : a = b := by
  rcases serves_last hh _ (Nat.le_refl _) ha hb h1 with e | ⟨h, k1, k2, k3⟩
  · exact e
  · exfalso
    have : P.circle l = true := circle_iff.2 ⟨b, hb, h, edge_mem hb k2, by simpa using war_trans _ ha h2 k3⟩
    rw [hc] at this
    cases this

/-! The order. -/

theorem sub_len : ∀ (A L : List Int), A.Nodup → (∀ x ∈ A, x ∈ L) → A.length ≤ L.length := by
  intro A
  induction A with
  | nil => intro L _ _; simp
  | cons a A ih =>
    intro L hn hs
    have ha := hs a (by simp)
    have h2 := List.nodup_cons.1 hn
    have := ih (L.erase a) h2.2 (fun x hx => by
      have hx2 := hs x (by simp [hx])
      have hne : x ≠ a := fun e => h2.1 (e ▸ hx)
      exact (List.mem_erase_of_ne hne).2 hx2)
    rw [List.length_erase_of_mem ha] at this
    have := List.length_pos_of_mem ha
    simp
    omega

structure P.Ordered (T : Tab) (n : Nat) (l : List Int) : Prop where
  nodup : l.Nodup
  bound : ∀ x ∈ l, 0 ≤ x ∧ x < (n : Int)
  apart : l.Pairwise (fun x y => T y.toNat x.toNat = false)
  shut : ∀ x ∈ l, ∀ o : Nat, o < n → ¬ (o : Int) ∈ l → T o x.toNat = false

theorem Ordered.nil (T : Tab) (n : Nat) : P.Ordered T n [] := ⟨List.nodup_nil, by simp, by simp, by simp⟩
/-- What a ship that is right gives. -/
theorem ship_facts {legs souls : Int} {cs : List Cat} {bs : List Cab} (h : P.shipE legs souls cs bs = 0) :
    let T := P.war (P.base cs) cs.length
    1 ≤ cs.length ∧ cs.length ≤ 5 ∧ (∀ c ∈ cs, ∀ h ∈ c.2, 0 ≤ h ∧ h < cs.length) ∧ (∀ a, a < cs.length → T a a = true) ∧ (∀ a b c, a < cs.length → b < cs.length → c < cs.length → T a b = true → T b c = true → T a c = true) ∧
    (∀ a b, a < cs.length → b < cs.length → T a b = true → T b a = true → a = b) ∧ P.orderL legs souls cs bs = P.order T cs.length cs.length [] := by
  obtain ⟨h1, h2, h3, h4, h5⟩ := ship_ok h
  have hh : ∀ c ∈ cs, ∀ h ∈ c.2, 0 ≤ h ∧ h < cs.length := fun c hc h hx => by have := high_ok (h3 c hc) h hx; omega
  exact ⟨h1, h2, hh, fun a ha => serves_refl ha _, fun a b c _ hb _ k1 k2 => war_trans _ hb k1 k2, fun a b ha hb k1 k2 => serves_anti hh h4 ha hb k1 k2, by rw [P.orderL, if_pos h]⟩

end Go.Proofs.YtlamhfbdeinkkaeGreat.Sh
