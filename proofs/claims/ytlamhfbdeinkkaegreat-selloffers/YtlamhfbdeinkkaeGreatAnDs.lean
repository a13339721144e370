/- Package anew: Sailing. -/
import Derived.Test.YtlamhfbdeinkkaeGreatAnCs
import Derived.Test.YtlamhfbdeinkkaeGreatSeAs
namespace Go.Proofs.YtlamhfbdeinkkaeGreat.St
open Go.RowKit Bk
set_option linter.unusedSimpArgs false
set_option linter.unusedVariables false
set_option maxRecDepth 10000

/-- Blocks from p to n, and from N on, are as they were. -/
def Gap (p n N : Nat) (w w' : World) : Prop := w.heap.size ≤ w'.heap.size ∧ ∀ b, (p ≤ b ∧ b < n ∨ N ≤ b) → b < w.heap.size → w'.heap[b]? = w.heap[b]?
theorem Gap.trans {p n N : Nat} {a b c : World} (h : Gap p n N a b) (k : Gap p n N b c) : Gap p n N a c :=
  ⟨Nat.le_trans h.1 k.1, fun i h0 hi => by rw [k.2 i h0 (Nat.lt_of_lt_of_le hi h.1), h.2 i h0 hi]⟩
theorem Gap.refl {p n N : Nat} (a : World) : Gap p n N a a := ⟨Nat.le_refl _, fun _ _ _ => rfl⟩
theorem Gap.below {p n N : Nat} {a b : World} (h : Below a.heap.size a b) : Gap p n N a b := ⟨h.size, fun i _ hi => h.block i hi⟩
theorem Gap.gr {p n N g : Nat} {a b : World} (h : a.grownBy b (some g)) (h1 : n ≤ g ∨ g < p) (h2 : g < N) : Gap p n N a b := ⟨h.size, fun i h0 hi => h.block i hi (by simp; omega)⟩
theorem Gap.up {p n N : Nat} {a b : World} (h : Up p a b) (hN : p ≤ N) : Gap p n N a b := ⟨h.1, fun i h0 hi => h.2 i (by omega) hi⟩
/-- A sailing that lies in blocks from N on. -/
def SailUp (N : Nat) (w : World) (y : Sail) (a : SailA) : Prop := ∀ U, Up N w U → SailAt U y a
theorem SailUp.at {N : Nat} {w : World} {y : Sail} {a : SailA} (h : SailUp N w y a) : SailAt w y a := h w ⟨Nat.le_refl _, fun _ _ _ => rfl⟩
theorem SailUp.up {N : Nat} {w w' : World} {y : Sail} {a : SailA} (h : SailUp N w y a) (hu : Up N w w') : SailUp N w' y a := fun U hU => h U (hu.trans hU)
theorem SailUp.below {N : Nat} {w w' : World} {y : Sail} {a : SailA} (h : SailUp N w y a) (hb : Below w.heap.size w w') : SailUp N w' y a := h.up (Up.below hb)
theorem SailUp.mono {N M : Nat} {w : World} {y : Sail} {a : SailA} (h : SailUp N w y a) (hM : M ≤ N) : SailUp M w y a := fun U hU => h U (hU.mono hM)
theorem SailUp.zero (N : Nat) (w : World) : SailUp N w P.zeroS A.zeroS := fun U _ => zero_at U

/-- What a function does to a sailing of its own: an errno of which E tells, or a sailing of which Q does. -/
def HowOk (p : Nat) (w : World) (x : Sail) (F : Nat) (cs : Array Value) (E : Int → Prop) (Q : Sail → Prop) : Prop :=
  ∀ (w1 : World) (N m G : Nat) (a : SailA) (lv : List BkV), Below w.heap.size w w1 → w.heap.size ≤ N → Fresh w1 N m G x a lv →
    Calls Tryz.prog F (#[.pointer (some ⟨w1.heap.size, 0, none⟩)] ++ cs) (W.sail w1 x a) fun e w' => ∃ r : Int, e = .returned (.int .i64 r) ∧ E r ∧ (r = 0 → ∃ y a', SRow w' w1.heap.size y a' ∧ Q y ∧ ∀ U, Gap p w.heap.size N w' U → SailAt U y a') ∧ Below m (W.sail w1 x a) w'
/-- What anew.Sailing answers then. -/
def P.Anew (E : Int → Prop) (Q : Sail → Prop) (r : Int) (y : Sail) : Prop :=
  (E r ∧ ¬ r = 0 ∧ y = P.zeroS) ∨ (E 0 ∧ ∃ z q, Q z ∧ P.SailE z q ∧ ((q = 0 ∧ r = 0 ∧ y = z) ∨ (¬ q = 0 ∧ r = q ∧ y = P.zeroS)))

set_option maxHeartbeats 4000000 in
theorem anew_any (p : Nat) (x : Sail) (a : SailA) (F : Nat) (cs : Array Value) (E : Int → Prop) (Q : Sail → Prop) (w : World) (hp : p ≤ w.heap.size) (hs : SailAt w x a) (hS : Small x)
    (hcf : ∀ (args : Array Value) (wx : World), (callFunc F args).run Tryz.prog wx = .ok (.enter F args) wx) (hH : HowOk p w x F cs E Q) :
    Calls Tryz.prog 117 #[V.sail x a, .func (.func F) #[] cs] w fun e w' => ∃ r y a', e = .returned (.tuple #[V.sail y a', .int .i64 r]) ∧ P.Anew E Q r y ∧ SailUp p w' y a' ∧ Below w.heap.size w w' := by
  have hb0 : Below w.heap.size w ((W.sail w x a).alloc O.zs) := bvia (sail_below w x a) (by go_grown)
  have hz0 : ((W.sail w x a).alloc O.zs).heap.size = w.heap.size + 1 + 1 := by simp
  have HX0 : Aside (SBox ((W.sail w x a).alloc O.zs) w.heap.size x a) := (SBox.new w x a).below (by go_grown)
  have HZ0 : Aside (RowIs ((W.sail w x a).alloc O.zs) (w.heap.size + 1) C.zs) := by
    have := RowIs.new (W.sail w x a) C.zs 32
    rwa [World.size_alloc] at this
  have HH : Aside (HowOk p w x F cs E Q) := hH
  obtain ⟨d0, d1, d2, d3, d4, d5, d6, d7, d8, d9, d10, d11, d12⟩ := HX0.out
  clear hH
  go_enter Tryz.func117, Tryz.ntmps117
  go_wp2_with fail
  refine (copied_own x a _ (hs.below hb0) hS).mono ?_
  rintro e w1 ⟨a1, lv, m, G, rfl, hF, hb1⟩
  rw [hz0] at hF
  have hB1 := bvia hb0 hb1
  have hB2 := bvia hB1 (sail_below w1 x a1)
  have HC : Aside (Calls Tryz.prog F (#[.pointer (some ⟨w1.heap.size, 0, none⟩)] ++ cs) (W.sail w1 x a1) _) := HH.out w1 (w.heap.size + 1 + 1 + 1 + 1) m G a1 lv hB1 (by omega) hF
  have HM : Aside (w.heap.size + 1 + 1 + 1 + 1 ≤ m) := hF.nm
  have HZ2 : Aside (RowIs (W.sail w1 x a1) (w.heap.size + 1) C.zs) := (HZ0.out.below hb1).below (sail_below w1 x a1)
  clear d0 d1 d2 d3 d4 d5 d6 d7 d8 d9 d10 d11 d12 hF HX0 HZ0 hb0 hb1 hB1 HH
  go_wp2_with fail
  refine HC.out.mono ?_
  rintro e w2 ⟨r, rfl, hE, hQ, hb2⟩
  have HE : Aside (E r) := hE
  have HZ3 : Aside (RowIs w2 (w.heap.size + 1) C.zs) := HZ2.out.low hb2 (by have := HM.out; omega)
  have hB3 : Below w.heap.size w w2 := hB2.trans (hb2.mono (by have := HM.out; omega))
  clear hE HC hB2 hb2 HZ2
  cases hr : (r != 0)
  rotate_left
  · have HN : Aside (¬ r = 0) := by show ¬ _; simpa using hr
    clear hQ
    go_wp2_with (refine wpList_stC rfl 32 _ _ (by rfl) (w.heap.size + 1) C.zs (C.sail P.zeroS A.zeroS) Tryz.sizeSail (by rfl) (by rfl) HZ3.out rfl (sail_one _ _) ?_; intro w9 hr9 hg9)
    exact bodyPost_ret (res2 rfl hr9 _ rfl rfl Tryz.underlying32 rfl Tryz.sizeSail) rfl ⟨r, P.zeroS, A.zeroS, rfl, .inl ⟨HE.out, HN.out, rfl⟩, SailUp.zero _ _, below_gr hB3 hB3.size hg9 (by omega)⟩
  obtain rfl : r = 0 := by simpa using hr
  obtain ⟨y, a2, hR2, hQ2, hU2⟩ := hQ rfl
  have HQ : Aside (Q y) := hQ2
  have HU : Aside (∀ U, Gap p w.heap.size (w.heap.size + 1 + 1 + 1 + 1) w2 U → SailAt U y a2) := hU2
  have HR2 : Aside (SRow w2 w1.heap.size y a2) := hR2
  obtain ⟨d0, d1, d2, d3, d4, d5, d6, d7, d8, d9, d10, d11, d12⟩ := SRow.box hR2
  clear hr hQ hQ2 hU2 hR2
  go_wp2_with fail
  refine (stockCheck_any y a2 _ (HU.out _ (Gap.refl _))).mono ?_
  rintro e w3 ⟨q, rfl, hq, hb3⟩
  have HQ3 : Aside (P.SailE y q) := hq
  have hB4 := bvia hB3 hb3
  have HZ4 : Aside (RowIs w3 (w.heap.size + 1) C.zs) := HZ3.out.below hb3
  have HG3 : Aside (Gap p w.heap.size (w.heap.size + 1 + 1 + 1 + 1) w2 w3) := Gap.below hb3
  have HR3 : Aside (SRow w3 w1.heap.size y a2) := HR2.out.below hb3
  clear d0 d1 d2 d3 d4 d5 d6 d7 d8 d9 d10 d11 d12 hq HZ3 hb3 HR2
  cases hz : (q != 0)
  rotate_left
  · have HN : Aside (¬ q = 0) := by show ¬ _; simpa using hz
    go_wp2_with (refine wpList_stC rfl 32 _ _ (by rfl) (w.heap.size + 1) C.zs (C.sail P.zeroS A.zeroS) Tryz.sizeSail (by rfl) (by rfl) HZ4.out rfl (sail_one _ _) ?_; intro w9 hr9 hg9)
    exact bodyPost_ret (res2 rfl hr9 _ rfl rfl Tryz.underlying32 rfl Tryz.sizeSail) rfl ⟨q, P.zeroS, A.zeroS, rfl, .inr ⟨HE.out, y, q, HQ.out, HQ3.out, .inr ⟨HN.out, rfl, rfl⟩⟩, SailUp.zero _ _, below_gr hB4 hB4.size hg9 (by omega)⟩
  obtain rfl : q = 0 := by simpa using hz
  obtain ⟨d0, d1, d2, d3, d4, d5, d6, d7, d8, d9, d10, d11, d12⟩ := SRow.box HR3.out
  clear hz
  go_wp2_with (refine wpList_stC rfl 32 _ _ (by rfl) (w.heap.size + 1) C.zs (C.sail y a2) Tryz.sizeSail (by rfl) (by rfl) HZ4.out rfl (sail_one _ _) ?_; intro w9 hr9 hg9)
  exact bodyPost_ret (res2 rfl hr9 _ rfl rfl Tryz.underlying32 rfl Tryz.sizeSail) rfl ⟨0, y, a2, rfl, .inr ⟨HE.out, y, 0, HQ.out, HQ3.out, .inl ⟨rfl, rfl, rfl⟩⟩, fun U hU => HU.out _ (Gap.trans HG3.out (Gap.trans (Gap.gr hg9 (by omega) (by omega)) (Gap.up hU (by omega)))), below_gr hB4 hB4.size hg9 (by omega)⟩

end Go.Proofs.YtlamhfbdeinkkaeGreat.St
