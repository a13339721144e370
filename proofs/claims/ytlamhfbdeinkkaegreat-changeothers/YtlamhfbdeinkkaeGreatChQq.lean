/- What the program's change answers is what the document's does, wherever what comes is right. -/
import Derived.Test.YtlamhfbdeinkkaeGreatChHq
import Derived.Test.YtlamhfbdeinkkaeGreatChJq
import Derived.Test.YtlamhfbdeinkkaeGreatChAq
import Derived.Test.YtlamhfbdeinkkaeGreatChUq
import Derived.Test.YtlamhfbdeinkkaeGreatChKq
import Derived.Test.YtlamhfbdeinkkaeGreatStSq
namespace Go.Proofs.YtlamhfbdeinkkaeGreat.St
open Go.RowKit Bk
set_option linter.unusedSimpArgs false
set_option linter.unusedVariables false
set_option maxRecDepth 10000

theorem chg_ch {x : Sail} {id r : Int} {T : Bkg → Int → Bkg → Prop} {y : Sail} (hT : P.SailE x 0 → ∀ (k : Nat) (b b' : Bkg), P.LiveIs x.bks id k → x.bks[k]? = some b → T b 0 b' → P.SailE (P.setB x (x.bks.set k b')) 0) (h : P.Chg x id T r y) :
    (∃ q, P.SailE x q ∧ ¬ q = 0 ∧ r = q ∧ y = P.zeroS) ∨ (P.SailE x 0 ∧ P.Ch x id T r y) := by
  rcases h with h | ⟨hE, h | ⟨k, b, h1, h2, h3⟩⟩
  · exact .inl h
  · exact .inr ⟨hE, .inl h⟩
  · refine .inr ⟨hE, .inr ⟨k, b, h1, h2, ?_⟩⟩
    rcases h3 with ⟨⟨b', e1⟩, e2, e3⟩ | ⟨_, z, q, ⟨b', e1, e3⟩, hz, h4⟩
    · exact ⟨r, b', e1, .inl ⟨e2, rfl, e3⟩⟩
    · have hz0 : P.SailE z 0 := by rw [e3]; exact hT hE k b b' h1 h2 e1
      have hq := SailE.one hz hz0
      rcases h4 with ⟨_, r0, y0⟩ | ⟨q0, _, _⟩
      · exact ⟨0, b', e1, .inr ⟨rfl, r0, by rw [y0, e3]⟩⟩
      · exact absurd hq q0
theorem sure_ch {x : Sail} {id r : Int} {y : Sail} (h : P.Chg x id P.sureT r y) : (∃ q, P.SailE x q ∧ ¬ q = 0 ∧ r = q ∧ y = P.zeroS) ∨ (P.SailE x 0 ∧ P.Ch x id P.sureT r y) :=
  chg_ch (fun hE k b b' _ hk hT => sure_right hE hk hT) h
theorem pay_ch {x : Sail} {id m r : Int} {y : Sail} (h : P.Chg x id (P.payT x.day m) r y) : (∃ q, P.SailE x q ∧ ¬ q = 0 ∧ r = q ∧ y = P.zeroS) ∨ (P.SailE x 0 ∧ P.Ch x id (P.payT x.day m) r y) :=
  chg_ch (fun hE k b b' _ hk hT => pay_right hE hk hT) h

end Go.Proofs.YtlamhfbdeinkkaeGreat.St
namespace Go.Proofs.YtlamhfbdeinkkaeGreat.St
open Go.RowKit Bk
set_option linter.unusedSimpArgs false
set_option linter.unusedVariables false
set_option maxRecDepth 10000

set_option maxHeartbeats 2000000 in
theorem cancel_any (x : Sail) (a : SailA) (id : Int) (w : World) (hs : SailAt w x a) :
    Calls Tryz.prog 20 #[V.sail x a, .int .i64 id] w fun e w' => ∃ r y a', e = .returned (.tuple #[V.sail y a', .int .i64 r]) ∧ P.Chg x id (P.cnT x) r y ∧ SailUp w.heap.size w' y a' ∧ Below w.heap.size w w' := by
  have hb1 : Below w.heap.size w (w.alloc (.cells (C.sail x a) 32)) := al _ _
  have hb3 : Below w.heap.size w ((w.alloc (.cells (C.sail x a) 32)).alloc O.zs) := bvia hb1 (al _ _)
  have hb0 : Below w.heap.size w (((w.alloc (.cells (C.sail x a) 32)).alloc O.zs).alloc (.cells (C.sail x a) 96)) := bvia hb3 (al _ _)
  have hq2 : SRow (((w.alloc (.cells (C.sail x a) 32)).alloc O.zs).alloc (.cells (C.sail x a) 96)) (w.heap.size + 1 + 1) x a := by
    have := RowIs.new ((w.alloc (.cells (C.sail x a) 32)).alloc O.zs) (C.sail x a) 96
    simp only [World.size_alloc] at this
    exact this
  have HC : Aside (Calls Tryz.prog 63 #[V.sail x a, .int .i64 id, .func (.func 67) #[] #[.pointer (some ⟨w.heap.size + 1 + 1, 0, none⟩)]] (((w.alloc (.cells (C.sail x a) 32)).alloc O.zs).alloc (.cells (C.sail x a) 96)) _) :=
    change_any x a id 67 #[.pointer (some ⟨w.heap.size + 1 + 1, 0, none⟩)] (P.cnT x) _ (hs.below hb0) cancel1_calls' (fun hE k b wx hbx _ hk => cancel1_lit wx b (w.heap.size + 1 + 1) x a (hq2.below hbx) ((hs.below hb0).below hbx) hE (List.mem_of_getElem? hk))
  have HZ0 : Aside (RowIs (((w.alloc (.cells (C.sail x a) 32)).alloc O.zs).alloc (.cells (C.sail x a) 96)) (w.heap.size + 1) C.zs) := by
    have := RowIs.new (w.alloc (.cells (C.sail x a) 32)) C.zs 32
    simp only [World.size_alloc] at this
    exact this.below (al _ _)
  have HB0 : Aside (Below w.heap.size w (((w.alloc (.cells (C.sail x a) 32)).alloc O.zs).alloc (.cells (C.sail x a) 96))) := hb0
  clear hs hb0 hb1 hb3 hq2
  go_enter Tryz.func20, Tryz.ntmps20
  go_wp2_with fail
  refine HC.out.mono ?_
  rintro e w1 ⟨r, y, a1, rfl, h1, h2, h3⟩
  have H1 : Aside (P.Chg x id (P.cnT x) r y) := h1
  have H2 : Aside (SailUp (((w.alloc (.cells (C.sail x a) 32)).alloc O.zs).alloc (.cells (C.sail x a) 96)).heap.size w1 y a1) := h2
  have H3 : Aside (Below w.heap.size w w1) := bvia HB0.out h3
  have HZ1 : Aside (RowIs w1 (w.heap.size + 1) C.zs) := HZ0.out.below h3
  have hlt : w.heap.size + 1 < (((w.alloc (.cells (C.sail x a) 32)).alloc O.zs).alloc (.cells (C.sail x a) 96)).heap.size := HZ0.out.lt
  clear h1 h2 h3 HC HZ0
  go_wp2_with ((with_reducible refine wpList_stO (w.heap.size + 1) C.zs (C.sail y a1) ?_ ?_ ?_ HZ1.out ?_ ?_ ?_); exact Tryz.sizeSail; rfl; rfl; rfl; exact sail_one _ _; intro w9 hr9 hg9)
  exact bodyPost_ret (res2 rfl hr9 _ rfl rfl Tryz.underlying32 rfl Tryz.sizeSail) rfl ⟨r, y, a1, rfl, H1.out, SailUp.mono (SailUp.up H2.out (Up.gr hg9 hlt)) (by omega), below_gr H3.out H3.out.size hg9 (by omega)⟩

theorem cn_ch {x : Sail} {id r : Int} {y : Sail} (h : P.Chg x id (P.cnT x) r y) : (∃ q, P.SailE x q ∧ ¬ q = 0 ∧ r = q ∧ y = P.zeroS) ∨ (P.SailE x 0 ∧ P.Ch x id (P.cnT x) r y) :=
  chg_ch (fun hE k b b' _ hk hT => cn_right hE hk hT) h

end Go.Proofs.YtlamhfbdeinkkaeGreat.St
namespace Go.Proofs.YtlamhfbdeinkkaeGreat.St
open Go.RowKit Bk
set_option linter.unusedSimpArgs false
set_option linter.unusedVariables false
set_option maxRecDepth 10000

set_option maxHeartbeats 2000000 in
theorem pay_any (x : Sail) (a : SailA) (id c : Int) (w : World) (hs : SailAt w x a) :
    Calls Tryz.prog 19 #[V.sail x a, .int .i64 id, .int .i64 c] w fun e w' => ∃ r y a', e = .returned (.tuple #[V.sail y a', .int .i64 r]) ∧ P.Chg x id (P.payT x.day c) r y ∧ SailUp w.heap.size w' y a' ∧ Below w.heap.size w w' := by
  have hb1 : Below w.heap.size w (w.alloc (.cells (C.sail x a) 32)) := al _ _
  have hb2 : Below w.heap.size w ((w.alloc (.cells (C.sail x a) 32)).alloc (.cells #[.int .i64 c] 3)) := bvia hb1 (al _ _)
  have hb3 : Below w.heap.size w (((w.alloc (.cells (C.sail x a) 32)).alloc (.cells #[.int .i64 c] 3)).alloc O.zs) := bvia hb2 (al _ _)
  have hb0 : Below w.heap.size w ((((w.alloc (.cells (C.sail x a) 32)).alloc (.cells #[.int .i64 c] 3)).alloc O.zs).alloc (.cells (C.sail x a) 96)) := bvia hb3 (al _ _)
  have hq1 : RowIs ((((w.alloc (.cells (C.sail x a) 32)).alloc (.cells #[.int .i64 c] 3)).alloc O.zs).alloc (.cells (C.sail x a) 96)) (w.heap.size + 1) #[.int .i64 c] := by
    have := RowIs.new (w.alloc (.cells (C.sail x a) 32)) #[.int .i64 c] 3
    rw [World.size_alloc] at this
    exact (this.below (al _ _)).below (al _ _)
  have hq2 : SRow ((((w.alloc (.cells (C.sail x a) 32)).alloc (.cells #[.int .i64 c] 3)).alloc O.zs).alloc (.cells (C.sail x a) 96)) (w.heap.size + 1 + 1 + 1) x a := by
    have := RowIs.new (((w.alloc (.cells (C.sail x a) 32)).alloc (.cells #[.int .i64 c] 3)).alloc O.zs) (C.sail x a) 96
    simp only [World.size_alloc] at this
    exact this
  have HC : Aside (Calls Tryz.prog 63 #[V.sail x a, .int .i64 id, .func (.func 65) #[] #[.pointer (some ⟨w.heap.size + 1, 0, none⟩), .pointer (some ⟨w.heap.size + 1 + 1 + 1, 0, none⟩)]] ((((w.alloc (.cells (C.sail x a) 32)).alloc (.cells #[.int .i64 c] 3)).alloc O.zs).alloc (.cells (C.sail x a) 96)) _) :=
    change_any x a id 65 #[.pointer (some ⟨w.heap.size + 1, 0, none⟩), .pointer (some ⟨w.heap.size + 1 + 1 + 1, 0, none⟩)] (P.payT x.day c) _ (hs.below hb0) pay1_calls (fun _ k b wx hbx _ _ => pay1_lit wx b (w.heap.size + 1) (w.heap.size + 1 + 1 + 1) x a c ((hq1.below hbx).cell 0) (hq2.below hbx))
  have HZ0 : Aside (RowIs ((((w.alloc (.cells (C.sail x a) 32)).alloc (.cells #[.int .i64 c] 3)).alloc O.zs).alloc (.cells (C.sail x a) 96)) (w.heap.size + 1 + 1) C.zs) := by
    have := RowIs.new ((w.alloc (.cells (C.sail x a) 32)).alloc (.cells #[.int .i64 c] 3)) C.zs 32
    simp only [World.size_alloc] at this
    exact this.below (al _ _)
  have HB0 : Aside (Below w.heap.size w ((((w.alloc (.cells (C.sail x a) 32)).alloc (.cells #[.int .i64 c] 3)).alloc O.zs).alloc (.cells (C.sail x a) 96))) := hb0
  clear hs hb0 hb1 hb2 hb3 hq1 hq2
  go_enter Tryz.func19, Tryz.ntmps19
  go_wp2_with fail
  refine HC.out.mono ?_
  rintro e w1 ⟨r, y, a1, rfl, h1, h2, h3⟩
  have H1 : Aside (P.Chg x id (P.payT x.day c) r y) := h1
  have H2 : Aside (SailUp ((((w.alloc (.cells (C.sail x a) 32)).alloc (.cells #[.int .i64 c] 3)).alloc O.zs).alloc (.cells (C.sail x a) 96)).heap.size w1 y a1) := h2
  have H3 : Aside (Below w.heap.size w w1) := bvia HB0.out h3
  have HZ1 : Aside (RowIs w1 (w.heap.size + 1 + 1) C.zs) := HZ0.out.below h3
  have hlt : w.heap.size + 1 + 1 < ((((w.alloc (.cells (C.sail x a) 32)).alloc (.cells #[.int .i64 c] 3)).alloc O.zs).alloc (.cells (C.sail x a) 96)).heap.size := HZ0.out.lt
  clear h1 h2 h3 HC HZ0
  go_wp2_with ((with_reducible refine wpList_stO (w.heap.size + 1 + 1) C.zs (C.sail y a1) ?_ ?_ ?_ HZ1.out ?_ ?_ ?_); exact Tryz.sizeSail; rfl; rfl; rfl; exact sail_one _ _; intro w9 hr9 hg9)
  exact bodyPost_ret (res2 rfl hr9 _ rfl rfl Tryz.underlying32 rfl Tryz.sizeSail) rfl ⟨r, y, a1, rfl, H1.out, SailUp.mono (SailUp.up H2.out (Up.gr hg9 hlt)) (by omega), below_gr H3.out H3.out.size hg9 (by omega)⟩

end Go.Proofs.YtlamhfbdeinkkaeGreat.St
namespace Go.Proofs.YtlamhfbdeinkkaeGreat.St
open Go.RowKit Bk
set_option linter.unusedSimpArgs false
set_option linter.unusedVariables false
set_option maxRecDepth 10000

def T.D1 : Sail := P.setB T.C [T.N1, P.sureB T.Q1]
def T.D2 : Sail := P.setB T.C [P.payB 2 200 T.N1, T.Q1]
def T.D3 : Sail := P.setB T.D2 [P.cnB T.D2 (P.payB 2 200 T.N1), T.Q1]
theorem live_is {l : List Bkg} {id : Int} {k : Nat} {b : Bkg} (h : l[k]? = some b) (hi : b.id = id) (hs : b.state ≠ 3) : P.LiveIs l id k := .inl ⟨k, b, rfl, h, hi, hs⟩
theorem rise_of {x : Sail} (h : P.SailE x 0) : x.bks.Pairwise (fun a b => a.id < b.id) := (bksI_rise (pre_zero (sail_ok h).1).2.1).2
/-- What a change answers where what it does is known. -/
theorem ch_is {x : Sail} {id r : Int} {T : Bkg → Int → Bkg → Prop} {k : Nat} {b b' : Bkg} {y : Sail} (hE : P.SailE x 0) (hone : ∀ b e b' e' b'', T b e b' → T b e' b'' → e = e' ∧ (e = 0 → b' = b'')) (hk : x.bks[k]? = some b) (hi : b.id = id) (hs : b.state ≠ 3) (hT : T b 0 b') (h : P.Ch x id T r y) : r = 0 ∧ y = P.setB x (x.bks.set k b') := by
  have := Ch.one (rise_of hE) hone h (.inr ⟨k, b, live_is hk hi hs, hk, 0, b', hT, .inr ⟨rfl, rfl, rfl⟩⟩ : P.Ch x id T 0 (P.setB x (x.bks.set k b')))
  exact this
/-- Where it is refused for one reason alone. -/
theorem chg_bad {x : Sail} {id r n : Int} {T : Bkg → Int → Bkg → Prop} {k : Nat} {b : Bkg} {y : Sail} (hE : P.SailE x 0) (hk : x.bks[k]? = some b) (hi : b.id = id) (hs : b.state ≠ 3) (hT : ∀ e b', T b e b' → e = n) (hn : ¬ n = 0) (h : P.Chg x id T r y) : r = n ∧ y = P.zeroS := by
  have hl := live_is hk hi hs
  rcases h with ⟨q, h1, h2, _, _⟩ | ⟨_, ⟨h1, _, _⟩ | ⟨k', c, h1, h2, h3⟩⟩
  · exact absurd (SailE.one h1 hE) h2
  · have := LiveIs.one (rise_of hE) hl h1; omega
  · have hkk := LiveIs.one (rise_of hE) hl h1
    obtain rfl : k = k' := by omega
    rw [hk] at h2
    obtain rfl := Option.some.inj h2
    rcases h3 with ⟨⟨b', e1⟩, e2, e3⟩ | ⟨⟨b', e1⟩, _⟩
    · exact ⟨hT _ _ e1, e3⟩
    · exact absurd (hT _ _ e1).symm hn
theorem right_not {x : Sail} {q : Int} (hE : P.SailE x 0) (h1 : P.SailE x q) (h2 : ¬ q = 0) : False := h2 (SailE.one h1 hE)
theorem t_pay : P.payE 2 200 T.N1 = 0 := by decide +kernel
theorem t_d2 : P.SailE T.D2 0 := pay_right (k := 0) (b := T.N1) t_sail rfl ⟨t_pay.symm, fun _ => rfl⟩
theorem t_can : P.cnE T.D2 (P.payB 2 200 T.N1) = 0 := by decide +kernel
theorem t_mv : P.mvE T.C 0 T.Q1 = 4 ∧ P.mvE T.C 0 T.N1 = 4 := by decide +kernel
theorem t_lens : (P.payB 2 200 T.N1).fol.length = 2 ∧ (P.cnB T.D2 (P.payB 2 200 T.N1)).fol.length = 4 := by decide +kernel

set_option maxHeartbeats 400000 in
theorem sure_C (a : SailA) (w : World) (s : SailAt w T.C a) :
    Calls Tryz.prog 18 #[V.sail T.C a, .int .i64 9] w fun e w' => ∃ a', e = .returned (.tuple #[V.sail T.D1 a', .int .i64 0]) ∧ SailUp w.heap.size w' T.D1 a' ∧ Below w.heap.size w w' := by
  refine (sure_any T.C a 9 w s).mono ?_
  rintro e w' ⟨r, y, a', rfl, h, u, hb⟩
  rcases sure_ch h with ⟨q, h1, h2, _, _⟩ | ⟨_, h1⟩
  · exact (right_not t_sail h1 h2).elim
  obtain ⟨rfl, rfl⟩ := ch_is (k := 1) (b := T.Q1) (b' := P.sureB T.Q1) t_sail sureT_one rfl rfl (by decide) ⟨rfl, fun _ => rfl⟩ h1
  exact ⟨a', rfl, u, hb⟩
set_option maxHeartbeats 400000 in
theorem pay_C (a : SailA) (w : World) (s : SailAt w T.C a) :
    Calls Tryz.prog 19 #[V.sail T.C a, .int .i64 7, .int .i64 200] w fun e w' => ∃ a', e = .returned (.tuple #[V.sail T.D2 a', .int .i64 0]) ∧ SailUp w.heap.size w' T.D2 a' ∧ Below w.heap.size w w' := by
  refine (pay_any T.C a 7 200 w s).mono ?_
  rintro e w' ⟨r, y, a', rfl, h, u, hb⟩
  rcases pay_ch h with ⟨q, h1, h2, _, _⟩ | ⟨_, h1⟩
  · exact (right_not t_sail h1 h2).elim
  obtain ⟨rfl, rfl⟩ := ch_is (k := 0) (b := T.N1) (b' := P.payB 2 200 T.N1) t_sail (payT_one _ _) rfl rfl (by decide) ⟨t_pay.symm, fun _ => rfl⟩ h1
  exact ⟨a', rfl, u, hb⟩
set_option maxHeartbeats 400000 in
theorem cancel_C (a : SailA) (w : World) (s : SailAt w T.D2 a) :
    Calls Tryz.prog 20 #[V.sail T.D2 a, .int .i64 7] w fun e w' => ∃ a', e = .returned (.tuple #[V.sail T.D3 a', .int .i64 0]) ∧ SailUp w.heap.size w' T.D3 a' ∧ Below w.heap.size w w' := by
  refine (cancel_any T.D2 a 7 w s).mono ?_
  rintro e w' ⟨r, y, a', rfl, h, u, hb⟩
  rcases cn_ch h with ⟨q, h1, h2, _, _⟩ | ⟨_, h1⟩
  · exact (right_not t_d2 h1 h2).elim
  obtain ⟨rfl, rfl⟩ := ch_is (k := 0) (b := P.payB 2 200 T.N1) (b' := P.cnB T.D2 (P.payB 2 200 T.N1)) t_d2 (cnT_one _) rfl rfl (by decide) ⟨t_can.symm, fun _ => rfl⟩ h1
  exact ⟨a', rfl, u, hb⟩
set_option maxHeartbeats 400000 in
theorem move_C9 (a : SailA) (w : World) (s : SailAt w T.C a) :
    Calls Tryz.prog 21 #[V.sail T.C a, .int .i64 9, .int .i64 0] w fun e w' => ∃ a', e = .returned (.tuple #[V.sail P.zeroS a', .int .i64 4]) ∧ Below w.heap.size w w' := by
  refine (move_any T.C a 9 0 w s).mono ?_
  rintro e w' ⟨r, y, a', rfl, h, u, hb⟩
  obtain ⟨rfl, rfl⟩ := chg_bad (k := 1) (b := T.Q1) (n := 4) t_sail rfl rfl (by decide) (fun e b' h => h.1.trans t_mv.1) (by decide) h
  exact ⟨a', rfl, hb⟩
set_option maxHeartbeats 400000 in
theorem move_C7 (a : SailA) (w : World) (s : SailAt w T.C a) :
    Calls Tryz.prog 21 #[V.sail T.C a, .int .i64 7, .int .i64 0] w fun e w' => ∃ a', e = .returned (.tuple #[V.sail P.zeroS a', .int .i64 4]) ∧ Below w.heap.size w w' := by
  refine (move_any T.C a 7 0 w s).mono ?_
  rintro e w' ⟨r, y, a', rfl, h, u, hb⟩
  obtain ⟨rfl, rfl⟩ := chg_bad (k := 0) (b := T.N1) (n := 4) t_sail rfl rfl (by decide) (fun e b' h => h.1.trans t_mv.2) (by decide) h
  exact ⟨a', rfl, hb⟩

end Go.Proofs.YtlamhfbdeinkkaeGreat.St
