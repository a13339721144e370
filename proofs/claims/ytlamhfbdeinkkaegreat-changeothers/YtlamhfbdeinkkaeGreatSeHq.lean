/- Package sell: unused, offers, Offers. -/
import Derived.Test.YtlamhfbdeinkkaeGreatStXq
import Derived.Test.YtlamhfbdeinkkaeGreatAnCq
import Derived.Test.YtlamhfbdeinkkaeGreatSeAq
import Derived.Test.YtlamhfbdeinkkaeGreatSeLq
namespace Go.Proofs.YtlamhfbdeinkkaeGreat.St
open Go.RowKit Bk
set_option linter.unusedSimpArgs false
set_option linter.unusedVariables false
set_option maxRecDepth 10000

/-- The least number that is not there. -/
structure LeastIs (l : List Bkg) (n : Int) : Prop where
  pos : 1 ≤ n
  all : ∀ m, 1 ≤ m → m < n → P.isIn m l = true
  out : P.isIn n l = false
theorem LeastIs.one {l : List Bkg} {n m : Int} (h : LeastIs l n) (k : LeastIs l m) : n = m := by
  rcases Int.lt_trichotomy n m with hlt | rfl | hlt
  · have := k.all n h.pos hlt
    rw [h.out] at this
    cases this
  · rfl
  · have := h.all m k.pos hlt
    rw [k.out] at this
    cases this
/-- In another cabin. -/
def P.setC (b : Bkg) (c : Int) : Bkg := ⟨b.id, b.kind, b.state, b.guests, b.level, c, b.cat, b.frm, b.to, b.til, b.fol⟩
/-- I2: the cabins, of the first n, that would be sold. -/
structure OffIs (x : Sail) (b : Bkg) (n : Nat) (l : List Int) : Prop where
  up : l.Pairwise (· < ·)
  lo : ∀ z ∈ l, 0 ≤ z ∧ z < n
  iff : ∀ c : Nat, c < n → ((c : Int) ∈ l ↔ ∃ y, P.Sells 1 x (P.setC b c) 0 y)
theorem OffIs.nil (x : Sail) (b : Bkg) : OffIs x b 0 [] := ⟨by simp, by simp, fun c hc => by omega⟩
theorem sorted_ext {a b : List Int} (ha : a.Pairwise (· < ·)) (hb : b.Pairwise (· < ·)) (h : ∀ z, z ∈ a ↔ z ∈ b) : a = b := by
  induction a generalizing b with
  | nil =>
    cases b with
    | nil => rfl
    | cons y t => exact absurd ((h y).2 (by simp)) (by simp)
  | cons x s ih =>
    cases b with
    | nil => exact absurd ((h x).1 (by simp)) (by simp)
    | cons y t =>
      obtain ⟨a1, a2⟩ := List.pairwise_cons.1 ha
      obtain ⟨b1, b2⟩ := List.pairwise_cons.1 hb
      have hxy : x = y := by
        rcases List.mem_cons.1 ((h x).1 (by simp)) with e | hx
        · exact e
        · rcases List.mem_cons.1 ((h y).2 (by simp)) with e | hy
          · exact e.symm
          · have := a1 y hy; have := b1 x hx; omega
      subst hxy
      congr 1
      refine ih a2 b2 (fun z => ?_)
      have hz := h z
      simp only [List.mem_cons] at hz
      constructor
      · intro hs
        rcases hz.1 (.inr hs) with e | ht
        · have := a1 z hs; omega
        · exact ht
      · intro ht
        rcases hz.2 (.inr ht) with e | hs
        · have := b1 z ht; omega
        · exact hs
theorem OffIs.one {x : Sail} {b : Bkg} {n : Nat} {l l' : List Int} (h : OffIs x b n l) (h' : OffIs x b n l') : l = l' := by
  refine sorted_ext h.up h'.up (fun z => ?_)
  constructor
  · intro hz
    have hb := h.lo z hz
    obtain ⟨c, rfl⟩ : ∃ c : Nat, z = c := ⟨z.toNat, by omega⟩
    exact (h'.iff c (by omega)).2 ((h.iff c (by omega)).1 hz)
  · intro hz
    have hb := h'.lo z hz
    obtain ⟨c, rfl⟩ : ∃ c : Nat, z = c := ⟨z.toNat, by omega⟩
    exact (h.iff c (by omega)).2 ((h'.iff c (by omega)).1 hz)
theorem OffIs.len {x : Sail} {b : Bkg} {n : Nat} {l : List Int} (h : OffIs x b n l) : l.length ≤ n := by
  have hnd : l.Nodup := by
    rw [List.nodup_iff_pairwise_ne]
    exact (List.pairwise_iff_getElem.2 fun i j hi hj hij => by have := List.pairwise_iff_getElem.1 h.up i j hi hj hij; omega)
  exact Ma.pigeon n l hnd (fun z hz => h.lo z hz)

/-- I2: what is wrong. -/
def P.offE (x : Sail) (g f t : Int) : Int := if P.btw g 1 4 = true then (if P.chk f t x.s.legs = 0 then (if x.lvs ≤ x.day then 4 else if 16 ≤ x.bks.length then 2 else 0) else P.chk f t x.s.legs) else 3
/-- Whom they are offered to. -/
def P.who (n g : Int) (lv : Bool) (f t : Int) : Bkg := ⟨n, 1, 2, g, lv, 0, 0, f, t, 0, []⟩
/-- I2: the errno, and the cabins. -/
def P.Offs (x : Sail) (g : Int) (lv : Bool) (f t r : Int) (l : List Int) : Prop := r = P.offE x g f t ∧ (¬ r = 0 → l = []) ∧ (r = 0 → ∃ n, LeastIs x.bks n ∧ OffIs x (P.who n g lv f t) x.s.bs.length l)
def P.OffS (x : Sail) (g : Int) (lv : Bool) (f t r : Int) (l : List Int) : Prop := (∃ q, P.SailE x q ∧ ¬ q = 0 ∧ r = q ∧ l = []) ∨ (P.SailE x 0 ∧ P.Offs x g lv f t r l)
theorem Offs.one {x : Sail} {g : Int} {lv : Bool} {f t r r' : Int} {l l' : List Int} (h : P.Offs x g lv f t r l) (h' : P.Offs x g lv f t r' l') : r = r' ∧ l = l' := by
  obtain ⟨rfl, h1, h2⟩ := h
  obtain ⟨rfl, k1, k2⟩ := h'
  refine ⟨rfl, ?_⟩
  by_cases h0 : P.offE x g f t = 0
  · obtain ⟨n, a1, a2⟩ := h2 h0
    obtain ⟨m, b1, b2⟩ := k2 h0
    obtain rfl := LeastIs.one a1 b1
    exact OffIs.one a2 b2
  · rw [h1 h0, k1 h0]
theorem OffS.one {x : Sail} {g : Int} {lv : Bool} {f t r r' : Int} {l l' : List Int} (h : P.OffS x g lv f t r l) (h' : P.OffS x g lv f t r' l') : r = r' ∧ l = l' := by
  rcases h with ⟨q, a1, a2, rfl, rfl⟩ | ⟨a1, a2⟩ <;> rcases h' with ⟨q', b1, b2, rfl, rfl⟩ | ⟨b1, b2⟩
  · exact ⟨SailE.one a1 b1, rfl⟩
  · exact absurd (SailE.one a1 b1) a2
  · exact absurd (SailE.one b1 a1) b2
  · exact Offs.one a2 b2
end Go.Proofs.YtlamhfbdeinkkaeGreat.St
namespace Go.Proofs.YtlamhfbdeinkkaeGreat.St
open Go.RowKit Bk
set_option linter.unusedSimpArgs false
set_option linter.unusedVariables false
set_option maxRecDepth 10000

/-- A store of a whole value, where a store stands. -/
theorem wpList_stO {ops : Array Oper} {rest : List Oper} {act : Act} {Q : Exit → Act → World → Prop} {w : World} {ty tt : TypeId} {x y : Operand} {pos : String} {af : Array Edge}
    (g : Nat) (old cells : Array Value) (hty : (Tryz.prog.info? ty).map (·.size) = some cells.size) (hx : act.eval x = .pointer (some ⟨g, 0, none⟩)) (hy : act.eval y = .agg cells) (hb : RowIs w g old) (hsz : old.size = cells.size) (h1 : cells.all (·.oneCell') = true)
    (h : ∀ w', RowIs w' g cells → w.grownBy w' (some g) → wpList Tryz.prog ops Q rest (act.put none undef) w') : wpList Tryz.prog ops Q ({ dst := none, op := .store ty x y, type := tt, pos := pos, after := af, guard := none } :: rest) act w :=
  wpList_stC rfl ty x y rfl g old cells hty hx hy hb hsz h1 h
/-- Blocks below n, and from N on, are as they were. -/
def Twixt (n N : Nat) (w U : World) : Prop := Below n w U ∧ ∀ b, N ≤ b → b < w.heap.size → U.heap[b]? = w.heap[b]?
theorem Twixt.refl (n N : Nat) (w : World) : Twixt n N w w := ⟨Below.refl _ _, fun _ _ _ => rfl⟩
theorem Twixt.trans {n N : Nat} {a b c : World} (h : Twixt n N a b) (k : Twixt n N b c) : Twixt n N a c :=
  ⟨h.1.trans k.1, fun i h0 hi => by rw [k.2 i h0 (Nat.lt_of_lt_of_le hi h.1.size), h.2 i h0 hi]⟩
theorem Twixt.below {n N : Nat} {w U : World} (h : Below w.heap.size w U) (hn : n ≤ w.heap.size) : Twixt n N w U := ⟨h.mono hn, fun b _ hb => h.block b hb⟩
theorem Twixt.gr {n N g : Nat} {w U : World} (h : w.grownBy U (some g)) (hn : n ≤ w.heap.size) (h1 : n ≤ g) (h2 : g < N) : Twixt n N w U := ⟨below_gr (Below.refl n w) hn h h1, fun b h3 hb => h.block b hb (by simp; omega)⟩
theorem Twixt.mono {n N M : Nat} {w U : World} (h : Twixt n N w U) (hN : N ≤ M) : Twixt n M w U := ⟨h.1, fun b h0 hb => h.2 b (by omega) hb⟩
/-- A sailing that lies in old blocks, and in some from N on. -/
def SailTw (n N : Nat) (w : World) (y : Sail) (a : SailA) : Prop := ∀ U, Twixt n N w U → SailAt U y a
theorem SailTw.at {n N : Nat} {w : World} {y : Sail} {a : SailA} (h : SailTw n N w y a) : SailAt w y a := h w (Twixt.refl _ _ _)
theorem SailTw.on {n N : Nat} {w U : World} {y : Sail} {a : SailA} (h : SailTw n N w y a) (hU : Twixt n N w U) : SailTw n N U y a := fun V hV => h V (hU.trans hV)
theorem SailTw.mono {n N M : Nat} {w : World} {y : Sail} {a : SailA} (h : SailTw n N w y a) (hM : M ≤ N) : SailTw n M w y a := fun U hU => h U (hU.mono hM)
theorem SailTw.zero (n N : Nat) (w : World) : SailTw n N w P.zeroS A.zeroS := fun U _ => zero_at U

end Go.Proofs.YtlamhfbdeinkkaeGreat.St
namespace Go.Proofs.YtlamhfbdeinkkaeGreat.St
open Go.RowKit Bk
set_option linter.unusedSimpArgs false
set_option linter.unusedVariables false
set_option maxRecDepth 10000

abbrev W.sp2 (w : World) (f t : Int) : World := w.alloc (.cells #[.int .i64 f, .int .i64 t] 34)
end Go.Proofs.YtlamhfbdeinkkaeGreat.St
namespace Go.Proofs.YtlamhfbdeinkkaeGreat.St
open Go.RowKit Bk
set_option linter.unusedSimpArgs false
set_option linter.unusedVariables false
set_option maxRecDepth 10000

theorem rA {w w' : World} {g : Nat} {c : Array Value} (h : Aside (RowIs w g c)) (hb : Below w.heap.size w w') : Aside (RowIs w' g c) := h.out.below hb
theorem rS {w w' : World} {x : Sail} {a : SailA} (h : Aside (SailAt w x a)) (hb : Below w.heap.size w w') : Aside (SailAt w' x a) := h.out.below hb
theorem rW {w0 w w' : World} (h : Aside (Below w0.heap.size w0 w)) (hb : Below w.heap.size w w') : Aside (Below w0.heap.size w0 w') := bvia h.out hb
theorem SellS.zero {k : Int} {x : Sail} {b : Bkg} {r : Int} {y : Sail} (h : P.SellS k x b r y) : ¬ r = 0 → y = P.zeroS := fun hr => SellS.err h hr

end Go.Proofs.YtlamhfbdeinkkaeGreat.St
