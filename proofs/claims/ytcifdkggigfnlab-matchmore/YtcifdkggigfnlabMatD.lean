/- Paths by which one more is matched; what find and its function literal leave. -/
import Derived.Test.YtcifdkggigfnlabMatC
namespace Go.Proofs.Ytcifdkggigfnlab
open Go.RowKit Go.Maps Go.WideMaps
set_option linter.unusedSimpArgs false
set_option linter.unusedVariables false

/-- A path from a left one x: each right one but the last has an owner, who goes on; the last has none. -/
def Alt (E : List Edge) (s : Nat → Int) : Int → List Nat → Prop
  | _, [] => False
  | x, r :: p => (x, (r : Int)) ∈ E ∧ ((p = [] ∧ s r = -1) ∨ (s r ≠ -1 ∧ Alt E s (s r) p))
/-- Who has each right one, when each on the path has given up what it has. -/
def P.shift (s : Nat → Int) : Int → List Nat → (Nat → Int)
  | _, [] => s
  | x, r :: p => fun j => if j = r then x else P.shift s (s r) p j
theorem shift_off (s : Nat → Int) : ∀ (p : List Nat) (x : Int) (j : Nat), j ∉ p → P.shift s x p j = s j := by
  intro p
  induction p with
  | nil => intro x j _; rfl
  | cons r p ih =>
    intro x j hj
    simp at hj
    show (if j = r then x else P.shift s (s r) p j) = s j
    rw [if_neg hj.1]
    exact ih _ _ hj.2

structure Dead (E : List Edge) (R : Nat) (s : Nat → Int) (A A' : List Int) : Prop where
  sub : ∀ a ∈ A, a ∈ A'
  nodup : A'.Nodup
  rng : ∀ a ∈ A', 0 ≤ a ∧ a < (R : Int)
  own : ∀ r : Nat, (r : Int) ∈ A' → ¬ (r : Int) ∈ A → s r ≠ -1 ∧ ∀ q : Int, (s r, q) ∈ E → q ∈ A'
structure Path (E : List Edge) (R : Nat) (s : Nat → Int) (A : List Int) (x : Int) (p : List Nat) : Prop where
  alt : Alt E s x p
  nodup : p.Nodup
  fresh : ∀ r ∈ p, r < R ∧ ¬ (r : Int) ∈ A

theorem Dead.refl {E : List Edge} {R : Nat} {s : Nat → Int} {A : List Int} (h1 : A.Nodup) (h2 : ∀ a ∈ A, 0 ≤ a ∧ a < (R : Int)) : Dead E R s A A := ⟨fun _ h => h, h1, h2, fun _ h k => absurd h k⟩
theorem Dead.trans {E : List Edge} {R : Nat} {s : Nat → Int} {A B C : List Int} (h : Dead E R s A B) (k : Dead E R s B C) : Dead E R s A C := by
  refine ⟨fun a ha => k.sub a (h.sub a ha), k.nodup, k.rng, fun r hr hn => ?_⟩
  by_cases e : (r : Int) ∈ B
  · obtain ⟨h1, h2⟩ := h.own r e hn
    exact ⟨h1, fun q hq => k.sub q (h2 q hq)⟩
  · exact k.own r hr e

/-- What find, asked for a left one x with A asked already, leaves. -/
def FindPost (B G M : Nat) (E : List Edge) (R : Nat) (s : Nat → Int) (A : List Int) (x : Int) (w : World) (e : Ending) (w' : World) : Prop :=
  ∃ (b : Bool) (A' : List Int) (s' : Nat → Int), e = .returned (.bool b) ∧ PSt w' B G M E R s' A' ∧ Mut G M w w' ∧ (b = false → s' = s ∧ Dead E R s A A' ∧ ∀ q : Int, (x, q) ∈ E → q ∈ A') ∧ (b = true → ∃ p, s' = P.shift s x p ∧ Path E R s A x p)

/-- The variables that find's function literal sees. -/
structure FnAt (w : World) (ga gp gx : Nat) (n R : Nat) (B G M : Nat) (x : Int) : Prop where
  a0 : w.cell? ⟨ga, 0, none⟩ = some (.map (some M))
  p0 : w.cell? ⟨gp, 0, none⟩ = some (.int .i64 n)
  p1 : w.cell? ⟨gp, 1, none⟩ = some (.int .i64 R)
  p2 : w.cell? ⟨gp, 2, none⟩ = some (.map (some B))
  p3 : w.cell? ⟨gp, 3, none⟩ = some (.slice (some ⟨G, 0, none⟩) R R)
  x0 : w.cell? ⟨gx, 0, none⟩ = some (.int .i64 x)
  ag : ga ≠ G
  am : ga ≠ M
  pg : gp ≠ G
  pm : gp ≠ M
  xg : gx ≠ G
  xm : gx ≠ M
theorem FnAt.mut {w w' : World} {ga gp gx n R B G M : Nat} {x : Int} (h : FnAt w ga gp gx n R B G M x) (k : Mut G M w w') : FnAt w' ga gp gx n R B G M x :=
  ⟨k.cell h.a0 h.ag h.am, k.cell h.p0 h.pg h.pm, k.cell h.p1 h.pg h.pm, k.cell h.p2 h.pg h.pm, k.cell h.p3 h.pg h.pm, k.cell h.x0 h.xg h.xm, h.ag, h.am, h.pg, h.pm, h.xg, h.xm⟩

/-- The graph and who has each right one are right. -/
structure Right (n R : Nat) (E : List Edge) (s : Nat → Int) : Prop where
  n16 : n ≤ 16
  r16 : R ≤ 16
  edge : ∀ x ∈ E, 0 ≤ x.1 ∧ x.1 < (n : Int) ∧ 0 ≤ x.2 ∧ x.2 < (R : Int)
  own : ∀ r, r < R → s r = -1 ∨ (0 ≤ s r ∧ s r < (n : Int))

/-- find does, with fewer than f right ones that were not asked. -/
def FindOk (n R B G M : Nat) (E : List Edge) (s : Nat → Int) (f : Nat) : Prop :=
  ∀ (A : List Int) (x : Int) (w : World), R - A.length < f → A.Nodup → (∀ a ∈ A, 0 ≤ a ∧ a < (R : Int)) → 0 ≤ x → x < (n : Int) → PSt w B G M E R s A →
    Calls Try.prog 46 #[.agg #[.int .i64 n, .int .i64 R, .map (some B), .slice (some ⟨G, 0, none⟩) R R], .int .i64 x, .map (some M)] w (FindPost B G M E R s A x w)

theorem pigeon : ∀ (n : Nat) (l : List Int), l.Nodup → (∀ x ∈ l, 0 ≤ x ∧ x < (n : Int)) → l.length ≤ n := by
  intro n
  induction n with
  | zero =>
    intro l _ hl
    cases l with
    | nil => simp
    | cons y l => have := hl y (by simp); omega
  | succ n ih =>
    intro l hn hl
    by_cases hm : (n : Int) ∈ l
    · have := ih (l.erase n) (hn.erase _) (fun x hx => by
        have h3 := hl x (List.mem_of_mem_erase hx)
        have h4 : x ≠ n := by
          intro e
          rw [e] at hx
          exact hn.not_mem_erase hx
        omega)
      rw [List.length_erase_of_mem hm] at this
      omega
    · have := ih l hn (fun x hx => by
        have h3 := hl x hx
        have h4 : x ≠ n := fun e => hm (e ▸ hx)
        omega)
      omega

theorem arr4 (a b c d : Value) : (#[a] ++ #[b, c, d] : Array Value) = #[a, b, c, d] := rfl

/-- What find's function literal leaves at a right one k. -/
def YieldPost (B G M : Nat) (E : List Edge) (R : Nat) (s : Nat → Int) (A : List Int) (x : Int) (k : Nat) (w : World) (e : Ending) (w' : World) : Prop :=
  ∃ (b : Bool) (A' : List Int) (s' : Nat → Int), e = .returned (.bool b) ∧ PSt w' B G M E R s' A' ∧ Mut G M w w' ∧ (b = false → s' = s ∧ Dead E R s A A' ∧ ((x, (k : Int)) ∈ E → (k : Int) ∈ A')) ∧ (b = true → ∃ p, s' = P.shift s (s k) p ∧ Path E R s A x (k :: p))

theorem nodup_snoc {A : List Int} {k : Int} (h : A.Nodup) (hk : ¬ k ∈ A) : (A ++ [k]).Nodup :=
  List.nodup_append.2 ⟨h, by simp, by intro x hx y hy; simp at hy; subst hy; intro e; exact hk (e ▸ hx)⟩

end Go.Proofs.Ytcifdkggigfnlab
