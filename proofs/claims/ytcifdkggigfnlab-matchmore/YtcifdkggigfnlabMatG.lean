/- The walk of find. -/
import Derived.Test.YtcifdkggigfnlabMatF
namespace Go.Proofs.Ytcifdkggigfnlab
open Go.RowKit Go.Maps Go.WideMaps
set_option linter.unusedSimpArgs false
set_option linter.unusedVariables false

theorem sub_len : ∀ (A A' : List Int), A.Nodup → (∀ a ∈ A, a ∈ A') → A.length ≤ A'.length := by
  intro A
  induction A with
  | nil => intro A' _ _; simp
  | cons a A ih =>
    intro A' hn hs
    obtain ⟨h1, h2⟩ := List.nodup_cons.1 hn
    have ha : a ∈ A' := hs a (by simp)
    have := ih (A'.erase a) h2 (fun b hb => by
      have hne : b ≠ a := fun e => h1 (e ▸ hb)
      exact (List.mem_erase_of_ne hne).2 (hs b (by simp [hb])))
    rw [List.length_erase_of_mem ha] at this
    have : 0 < A'.length := List.length_pos_of_mem ha
    simp only [List.length_cons]
    omega

/-- Ahead of the k-th call of the literal: what was asked is dead, and all that the left one may have of those ahead was asked. -/
def FindInv (B G M : Nat) (E : List Edge) (n R : Nat) (s : Nat → Int) (A : List Int) (x : Int) (ga gp gx : Nat) (w : World) (k : Nat) (wx : World) : Prop :=
  ∃ A', PSt wx B G M E R s A' ∧ Mut G M w wx ∧ FnAt wx ga gp gx n R B G M x ∧ Dead E R s A A' ∧ ∀ q : Nat, q < k → (x, (q : Int)) ∈ E → (q : Int) ∈ A'
def FindYes (B G M : Nat) (E : List Edge) (n R : Nat) (s : Nat → Int) (A : List Int) (x : Int) (ga gp gx : Nat) (w : World) (k : Nat) (wx : World) : Prop :=
  ∃ A' p, PSt wx B G M E R (P.shift s (s k) p) A' ∧ Mut G M w wx ∧ FnAt wx ga gp gx n R B G M x ∧ Path E R s A x (k :: p)

set_option maxHeartbeats 4000000 in
theorem find_step (n R B G M : Nat) (E : List Edge) (s : Nat → Int) (hr : Right n R E s) (f : Nat) (ih : Hid (FindOk n R B G M E s f)) : FindOk n R B G M E s (f + 1) := by
  intro A x w hf hA hAr hx0 hxn hst
  have hR16 := hr.r16
  have HR : Aside (Right n R E s) := hr
  have HAr : Aside (A.Nodup ∧ ∀ a ∈ A, 0 ≤ a ∧ a < (R : Int)) := ⟨hA, hAr⟩
  clear hA hAr hr
  have hGl := hst.owner.lt
  have hMl := hst.asked.lt
  go_enter Try.func46, Try.ntmps46
  go_wp2_with fail
  have hfn0 : FnAt (((w.alloc (.cells #[.int .i64 n, .int .i64 R, .map (some B), .slice (some ⟨G, 0, none⟩) R R] 70)).alloc (.cells #[.int .i64 x] 3)).alloc (.cells #[.map (some M)] 74)) (w.heap.size + 1 + 1) w.heap.size (w.heap.size + 1) n R B G M x :=
    ⟨by go_simp, by go_simp, by go_simp, by go_simp, by go_simp, by go_simp, by omega, by omega, by omega, by omega, by omega, by omega⟩
  have h0 : Hid (FindInv B G M E n R s A x (w.heap.size + 1 + 1) w.heap.size (w.heap.size + 1) w 0 (((w.alloc (.cells #[.int .i64 n, .int .i64 R, .map (some B), .slice (some ⟨G, 0, none⟩) R R] 70)).alloc (.cells #[.int .i64 x] 3)).alloc (.cells #[.map (some M)] 74))) :=
    ⟨A, hst.below (by go_grown), .ofBelow (by go_grown), hfn0, .refl HAr.out.1 HAr.out.2, fun q h => by omega⟩
  refine (first_inv R 54 #[.pointer (some ⟨w.heap.size + 1 + 1, 0, none⟩), .pointer (some ⟨w.heap.size, 0, none⟩), .pointer (some ⟨w.heap.size + 1, 0, none⟩)] (FindInv B G M E n R s A x (w.heap.size + 1 + 1) w.heap.size (w.heap.size + 1) w) (FindYes B G M E n R s A x (w.heap.size + 1 + 1) w.heap.size (w.heap.size + 1) w) _ (by omega) h0 (fun args wx => by go_simp) ?_).mono ?_
  · intro k wx hk ⟨A', hst', hm', hfn', hD, hq⟩
    rw [arr4]
    have hln := sub_len A A' HAr.out.1 hD.sub
    refine (yields_any n R B G M E s HR.out A' x _ _ _ k wx hD.nodup hD.rng hx0 hxn hk hst' hfn' f ih (by omega)).mono ?_
    rintro e w2 ⟨b, A2, s2, rfl, hst2, hm2, hno, hyes⟩
    cases b with
    | false =>
      obtain ⟨rfl, hD2, hk2⟩ := hno rfl
      refine .inl ⟨rfl, A2, hst2, hm'.trans hm2, hfn'.mut hm2, hD.trans hD2, fun q hqk he => ?_⟩
      by_cases e : q < k
      · exact hD2.sub _ (hq q e he)
      · obtain rfl : q = k := by omega
        exact hk2 he
    | true =>
      obtain ⟨p, rfl, hp⟩ := hyes rfl
      exact .inr ⟨rfl, A2, p, hst2, hm'.trans hm2, hfn'.mut hm2, hp.alt, hp.nodup, fun r hr => ⟨(hp.fresh r hr).1, fun h => (hp.fresh r hr).2 (hD.sub _ h)⟩⟩
  · clear h0 hfn0
    rintro e w4 (⟨rfl, A', hst', hm', hfn', hD, hq⟩ | ⟨k, hk, rfl, A', p, hst', hm', hfn', hp⟩)
    · have HQ : Aside (Dead E R s A A' ∧ ∀ q : Nat, q < R → (x, (q : Int)) ∈ E → (q : Int) ∈ A') := ⟨hD, hq⟩
      clear hD hq
      have c1 := hfn'.p1
      go_wp2
      go_ret
      refine ⟨false, A', s, rfl, hst', hm', fun _ => ⟨rfl, HQ.out.1, fun q hq => ?_⟩, fun h => by cases h⟩
      have h1 := HR.out.edge _ hq
      simp only at h1
      obtain ⟨Q, rfl⟩ : ∃ Q : Nat, q = Q := ⟨q.toNat, by omega⟩
      exact HQ.out.2 Q (by omega) hq
    · have HP : Aside (Path E R s A x (k :: p)) := hp
      clear hp
      have c1 := hfn'.p1
      have c3 := hfn'.p3
      have cx := hfn'.x0
      have hce := hst'.owner.cell hk
      have hfr := hst'.owner.frozen k
      have hne : ((k : Int) == (R : Int)) = false := by rw [beq_eq_false_iff_ne]; omega
      have i1 : (k : Int) < (R : Int) := by omega
      have i2 : (0 : Int) ≤ (k : Int) := by omega
      go_wp2
      go_ret
      refine ⟨true, A', P.shift s x (k :: p), rfl, ?_, hm'.trans .ofSet, (fun h => by cases h), fun _ => ⟨k :: p, rfl, HP.out⟩⟩
      refine ⟨(Mut.ofSet (G := G) (M := M)).map hst'.edges hst'.bg hst'.bm, (hst'.owner.set k _).congr (fun r hr => ?_), ?_, hst'.bg, hst'.bm, hst'.gm⟩
      · show (if r = k then _ else _) = Value.int .i64 (if r = k then x else P.shift s (s k) p r)
        split <;> rfl
      · obtain ⟨es, clock, h1, h2, h3, h4⟩ := hst'.asked
        exact ⟨es, clock, (Go.Deep.blk_setCell_other _ _ _ _ (fun e => hst'.gm e.symm)).trans h1, h2, h3, h4⟩

theorem find_ok (n R B G M : Nat) (E : List Edge) (s : Nat → Int) (hr : Right n R E s) : ∀ f, FindOk n R B G M E s f := by
  intro f
  induction f with
  | zero => intro A x w hf; omega
  | succ f ih => exact find_step n R B G M E s hr f ih

theorem find_any (n R B G M : Nat) (E : List Edge) (s : Nat → Int) (hr : Right n R E s) (x : Int) (w : World) (hx0 : 0 ≤ x) (hxn : x < (n : Int)) (hst : PSt w B G M E R s []) :
    Calls Try.prog 46 #[.agg #[.int .i64 n, .int .i64 R, .map (some B), .slice (some ⟨G, 0, none⟩) R R], .int .i64 x, .map (some M)] w (FindPost B G M E R s [] x w) :=
  find_ok n R B G M E s hr (R + 1) [] x w (by simp) (by simp) (by simp) hx0 hxn hst

end Go.Proofs.Ytcifdkggigfnlab
