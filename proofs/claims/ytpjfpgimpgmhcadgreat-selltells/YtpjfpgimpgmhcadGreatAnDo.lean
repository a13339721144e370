/- Package anew: Sailing. -/
import Derived.Test.YtpjfpgimpgmhcadGreatAnCo
import Derived.Test.YtpjfpgimpgmhcadGreatSeAo
namespace Go.Proofs.YtpjfpgimpgmhcadGreat.St
open Go.RowKit Bk
set_option linter.unusedSimpArgs false
set_option linter.unusedVariables false
set_option maxRecDepth 10000

/-- Blocks from p to n, and from N on, are as they were. -/
def Gap (p n N : Nat) (w w' : World) : Prop := w.heap.size ≤ w'.heap.size ∧ ∀ b, (p ≤ b ∧ b < n ∨ N ≤ b) → b < w.heap.size → w'.heap[b]? = w.heap[b]?
theorem Gap.trans {p n N : Nat} {a b c : World} (h : Gap p n N a b) (k : Gap p n N b c) : Gap p n N a c :=
  ⟨Nat.le_trans h.1 k.1, fun i h0 hi => by rw [k.2 i h0 (Nat.lt_of_lt_of_le hi h.1), h.2 i h0 hi]⟩
theorem Gap.refl {p n N : Nat} (a : World) : Gap p n N a a := ⟨Nat.le_refl _, fun _ _ _ => rfl⟩
theorem Gap.below {p n N : Nat} {a b : World} (h : Below a.heap.size a b) : Gap p n N a b := ⟨h.size, fun i _ hi => h.block i hi⟩
theorem Gap.gr {p n N g : Nat} {a b : World} (h : a.grownBy b (some g)) (h1 : n ≤ g ∨ g < p) (h2 : g < N) : Gap p n N a b := ⟨h.size, fun i h0 hi => h.block i hi (by simp; omega)⟩
theorem Gap.up {p n N : Nat} {a b : World} (h : Up p a b) (hN : p ≤ N) : Gap p n N a b := ⟨h.1, fun i h0 hi => h.2 i (by omega) hi⟩
/-- A sailing that lies in blocks from N on. -/
def SailUp (N : Nat) (w : World) (y : Sail) (a : SailA) : Prop := ∀ U, Up N w U → SailAt U y a
theorem SailUp.at {N : Nat} {w : World} {y : Sail} {a : SailA} (h : SailUp N w y a) : SailAt w y a := h w ⟨Nat.le_refl _, fun _ _ _ => rfl⟩
theorem SailUp.up {N : Nat} {w w' : World} {y : Sail} {a : SailA} (h : SailUp N w y a) (hu : Up N w w') : SailUp N w' y a := fun U hU => h U (hu.trans hU)
theorem SailUp.below {N : Nat} {w w' : World} {y : Sail} {a : SailA} (h : SailUp N w y a) (hb : Below w.heap.size w w') : SailUp N w' y a := h.up (Up.below hb)
theorem SailUp.mono {N M : Nat} {w : World} {y : Sail} {a : SailA} (h : SailUp N w y a) (hM : M ≤ N) : SailUp M w y a := fun U hU => h U (hU.mono hM)
theorem SailUp.zero (N : Nat) (w : World) : SailUp N w P.zeroS A.zeroS := fun U _ => zero_at U

/-- What a function does to a sailing of its own: an errno of which E tells, or a sailing of which Q does. -/
def HowOk (p : Nat) (w : World) (x : Sail) (F : Nat) (cs : Array Value) (E : Int → Prop) (Q : Sail → Prop) : Prop :=
  ∀ (w1 : World) (N m G : Nat) (a : SailA) (lv : List BkV), Below w.heap.size w w1 → w.heap.size ≤ N → Fresh w1 N m G x a lv →
    Calls Tryz.prog F (#[.pointer (some ⟨w1.heap.size, 0, none⟩)] ++ cs) (W.sail w1 x a) fun e w' => ∃ r : Int, e = .returned (.int .i64 r) ∧ E r ∧ (r = 0 → ∃ y a', SRow w' w1.heap.size y a' ∧ Q y ∧ ∀ U, Gap p w.heap.size N w' U → SailAt U y a') ∧ Below m (W.sail w1 x a) w'
/-- What anew.Sailing answers then. -/
def P.Anew (E : Int → Prop) (Q : Sail → Prop) (r : Int) (y : Sail) : Prop :=
  (E r ∧ ¬ r = 0 ∧ y = P.zeroS) ∨ (E 0 ∧ ∃ z q, Q z ∧ P.SailE z q ∧ ((q = 0 ∧ r = 0 ∧ y = z) ∨ (¬ q = 0 ∧ r = q ∧ y = P.zeroS)))

set_option maxHeartbeats 4000000 in
theorem anew_any (p : Nat) (x : Sail) (a : SailA) (F : Nat) (cs : Array Value) (E : Int → Prop) (Q : Sail → Prop) (w : World) (hp : p ≤ w.heap.size) (hs : SailAt w x a) (hS : Small x)
    (hcf : ∀ (args : Array Value) (wx : World), (callFunc F args).run Tryz.prog wx = .ok (.enter F args) wx) (hH : HowOk p w x F cs E Q) :
    Calls Tryz.prog 153 #[V.sail x a, .func (.func F) #[] cs] w fun e w' => ∃ r y a', e = .returned (.tuple #[V.sail y a', .int .i64 r]) ∧ P.Anew E Q r y ∧ SailUp p w' y a' ∧ Below w.heap.size w w' := by
  have hb0 : Below w.heap.size w ((W.sail w x a).alloc O.zs) := bvia (sail_below w x a) (by go_grown)
  have hz0 : ((W.sail w x a).alloc O.zs).heap.size = w.heap.size + 1 + 1 := by simp
  have HX0 : Aside (SBox ((W.sail w x a).alloc O.zs) w.heap.size x a) := (SBox.new w x a).below (by go_grown)
  have HZ0 : Aside (RowIs ((W.sail w x a).alloc O.zs) (w.heap.size + 1) C.zs) := by
    have := RowIs.new (W.sail w x a) C.zs 32
    rwa [World.size_alloc] at this
  have HH : Aside (HowOk p w x F cs E Q) := hH
  obtain ⟨d0, d1, d2, d3, d4, d5, d6, d7, d8, d9, d10, d11, d12⟩ := HX0.out
  clear hH
  go_enter Tryz.func153, Tryz.ntmps153
  go_wp2_with fail
  refine (copied_own x a _ (hs.below hb0) hS).mono ?_
  rintro e w1 ⟨a1, lv, m, G, rfl, hF, hb1⟩
  rw [hz0] at hF
  have hB1 := bvia hb0 hb1
  have hB2 := bvia hB1 (sail_below w1 x a1)
  have HC : Aside (Calls Tryz.prog F (#[.pointer (some ⟨w1.heap.size, 0, none⟩)] ++ cs) (W.sail w1 x a1) _) := HH.out w1 (w.heap.size + 1 + 1 + 1 + 1) m G a1 lv hB1 (by omega) hF
  have HM : Aside (w.heap.size + 1 + 1 + 1 + 1 ≤ m) := hF.nm
  have HZ2 : Aside (RowIs (W.sail w1 x a1) (w.heap.size + 1) C.zs) := (HZ0.out.below hb1).below (sail_below w1 x a1)
  clear d0 d1 d2 d3 d4 d5 d6 d7 d8 d9 d10 d11 d12 hF HX0 HZ0 hb0 hb1 hB1 HH
  go_wp2_with fail
  refine HC.out.mono ?_
  rintro e w2 ⟨r, rfl, hE, hQ, hb2⟩
  have HE : Aside (E r) := hE
  have HZ3 : Aside (RowIs w2 (w.heap.size + 1) C.zs) := HZ2.out.low hb2 (by have := HM.out; omega)
  have hB3 : Below w.heap.size w w2 := hB2.trans (hb2.mono (by have := HM.out; omega))
  clear hE HC hB2 hb2 HZ2
  cases hr : (r != 0)
  rotate_left
  · have HN : Aside (¬ r = 0) := by show ¬ _; simpa using hr
    clear hQ
    go_wp2_with (refine wpList_stC rfl 32 _ _ (by rfl) (w.heap.size + 1) C.zs (C.sail P.zeroS A.zeroS) Tryz.sizeSail (by rfl) (by rfl) HZ3.out rfl (sail_one _ _) ?_; intro w9 hr9 hg9)
    exact bodyPost_ret (res2 rfl hr9 _ rfl rfl Tryz.underlying32 rfl Tryz.sizeSail) rfl ⟨r, P.zeroS, A.zeroS, rfl, .inl ⟨HE.out, HN.out, rfl⟩, SailUp.zero _ _, below_gr hB3 hB3.size hg9 (by omega)⟩
  obtain rfl : r = 0 := by simpa using hr
  obtain ⟨y, a2, hR2, hQ2, hU2⟩ := hQ rfl
  have HQ : Aside (Q y) := hQ2
  have HU : Aside (∀ U, Gap p w.heap.size (w.heap.size + 1 + 1 + 1 + 1) w2 U → SailAt U y a2) := hU2
  have HR2 : Aside (SRow w2 w1.heap.size y a2) := hR2
  obtain ⟨d0, d1, d2, d3, d4, d5, d6, d7, d8, d9, d10, d11, d12⟩ := SRow.box hR2
  clear hr hQ hQ2 hU2 hR2
  go_wp2_with fail
  refine (stockCheck_any y a2 _ (HU.out _ (Gap.refl _))).mono ?_
  rintro e w3 ⟨q, rfl, hq, hb3⟩
  have HQ3 : Aside (P.SailE y q) := hq
  have hB4 := bvia hB3 hb3
  have HZ4 : Aside (RowIs w3 (w.heap.size + 1) C.zs) := HZ3.out.below hb3
  have HG3 : Aside (Gap p w.heap.size (w.heap.size + 1 + 1 + 1 + 1) w2 w3) := Gap.below hb3
  have HR3 : Aside (SRow w3 w1.heap.size y a2) := HR2.out.below hb3
  clear d0 d1 d2 d3 d4 d5 d6 d7 d8 d9 d10 d11 d12 hq HZ3 hb3 HR2
  cases hz : (q != 0)
  rotate_left
  · have HN : Aside (¬ q = 0) := by show ¬ _; simpa using hz
    go_wp2_with (refine wpList_stC rfl 32 _ _ (by rfl) (w.heap.size + 1) C.zs (C.sail P.zeroS A.zeroS) Tryz.sizeSail (by rfl) (by rfl) HZ4.out rfl (sail_one _ _) ?_; intro w9 hr9 hg9)
    exact bodyPost_ret (res2 rfl hr9 _ rfl rfl Tryz.underlying32 rfl Tryz.sizeSail) rfl ⟨q, P.zeroS, A.zeroS, rfl, .inr ⟨HE.out, y, q, HQ.out, HQ3.out, .inr ⟨HN.out, rfl, rfl⟩⟩, SailUp.zero _ _, below_gr hB4 hB4.size hg9 (by omega)⟩
  obtain rfl : q = 0 := by simpa using hz
  obtain ⟨d0, d1, d2, d3, d4, d5, d6, d7, d8, d9, d10, d11, d12⟩ := SRow.box HR3.out
  clear hz
  go_wp2_with (refine wpList_stC rfl 32 _ _ (by rfl) (w.heap.size + 1) C.zs (C.sail y a2) Tryz.sizeSail (by rfl) (by rfl) HZ4.out rfl (sail_one _ _) ?_; intro w9 hr9 hg9)
  exact bodyPost_ret (res2 rfl hr9 _ rfl rfl Tryz.underlying32 rfl Tryz.sizeSail) rfl ⟨0, y, a2, rfl, .inr ⟨HE.out, y, 0, HQ.out, HQ3.out, .inl ⟨rfl, rfl, rfl⟩⟩, fun U hU => HU.out _ (Gap.trans HG3.out (Gap.trans (Gap.gr hg9 (by omega) (by omega)) (Gap.up hU (by omega)))), below_gr hB4 hB4.size hg9 (by omega)⟩

end Go.Proofs.YtpjfpgimpgmhcadGreat.St
namespace Go.Proofs.YtpjfpgimpgmhcadGreat.St
open Go.RowKit Bk
set_option linter.unusedSimpArgs false
set_option linter.unusedVariables false
set_option maxRecDepth 10000

abbrev W.sel (w : World) (x : Sail) (a : SailA) : World :=
  w.alloc (.cells #[.int .i64 x.s.legs, .int .i64 x.s.souls, .slice a.v.cao x.s.cs.length a.v.cc, .slice a.v.bao x.s.bs.length a.v.bc, .slice a.lo x.L.length a.lc, .int .i64 x.al, .int .i64 x.th, .slice a.bo x.B.length a.bc, .int .i64 x.dn, .int .i64 x.day, .int .i64 x.lvs, .slice a.ao x.bks.length a.cap, .bool x.cl] 122)
theorem sel_row (w : World) (x : Sail) (a : SailA) : SRow (W.sel w x a) w.heap.size x a := RowIs.new w _ _
theorem sel_below (w : World) (x : Sail) (a : SailA) : Below w.heap.size w (W.sel w x a) := by go_grown

def P.sold (b : Bkg) (k : Int) : Bool := decide (b.kind = k) && decide (b.state ≠ 3)
set_option maxHeartbeats 1000000 in
theorem isSold_any (b : Bkg) (fo : Option Addr) (fc : Nat) (k : Int) (w : World) :
    Calls Tryz.prog 125 #[V.bk b fo fc, .int .i64 k] w fun e w' => e = .returned (.bool (P.sold b k)) ∧ Below w.heap.size w w' := by
  cases h1 : (b.kind == k)
  all_goals
    go_enter Tryz.func125, Tryz.ntmps125
    go_wp2
    go_ret
    exact ⟨ret_bool (by simp at h1; by_cases h2 : b.state = 3 <;> simp [P.sold, h1, h2]), by go_grown⟩
set_option maxHeartbeats 1000000 in
theorem hasLeft_any (x : Sail) (a : SailA) (w : World) :
    Calls Tryz.prog 79 #[V.sail x a] w fun e w' => e = .returned (.bool (decide (x.lvs ≤ x.day))) ∧ Below w.heap.size w w' := by
  obtain ⟨d0, d1, d2, d3, d4, d5, d6, d7, d8, d9, d10, d11, d12⟩ := SRow.box (sel_row w x a)
  go_enter Tryz.func79, Tryz.ntmps79
  go_wp2
  go_ret
  exact ⟨ret_bool rfl, by go_grown⟩
set_option maxHeartbeats 1000000 in
theorem isFull_any (x : Sail) (a : SailA) (w : World) :
    Calls Tryz.prog 80 #[V.sail x a] w fun e w' => e = .returned (.bool (decide (16 ≤ x.bks.length))) ∧ Below w.heap.size w w' := by
  obtain ⟨d0, d1, d2, d3, d4, d5, d6, d7, d8, d9, d10, d11, d12⟩ := SRow.box (sel_row w x a)
  go_enter Tryz.func80, Tryz.ntmps80
  go_wp2
  go_ret
  exact ⟨ret_bool (by by_cases h : 16 ≤ x.bks.length <;> simp [h] <;> omega), by go_grown⟩
set_option maxHeartbeats 2000000 in
theorem mayWait_any (x : Sail) (a : SailA) (b : Bkg) (fo : Option Addr) (fc : Nat) (w : World) :
    Calls Tryz.prog 126 #[V.sail x a, V.bk b fo fc] w fun e w' => e = .returned (.bool (P.waits x b)) ∧ Below w.heap.size w w' := by
  have hb0 : Below w.heap.size w (W.bk (W.sel w x a) b fo fc) := bvia (sel_below w x a) (bk_below _ b fo fc)
  obtain ⟨d0, d1, d2, d3, d4, d5, d6, d7, d8, d9, d10, d11, d12⟩ := (SRow.box (sel_row w x a)).below (bk_below _ b fo fc)
  obtain ⟨z0, z1, z2, z3, z4, z5, z6, z7, z8, z9, z10⟩ := BBox.new (W.sel w x a) b fo fc
  cases h1 : (b.state != 1)
  · by_cases h2 : x.day ≤ b.til
    · go_enter Tryz.func126, Tryz.ntmps126
      go_wp2
      go_ret
      exact ⟨ret_bool (by simp at h1; simp [P.waits, h1, h2]), by go_grown⟩
    · go_enter Tryz.func126, Tryz.ntmps126
      go_wp2
      go_ret
      exact ⟨ret_bool (by simp at h1; simp [P.waits, h1]; intros; omega), by go_grown⟩
  · go_enter Tryz.func126, Tryz.ntmps126
    go_wp2
    go_ret
    exact ⟨ret_bool (by simp at h1; simp [P.waits, h1]), by go_grown⟩

/-- Which of two numbers is less. -/
def P.cmp (a b : Int) : Int := if a < b then -1 else if b < a then 1 else 0
set_option maxHeartbeats 400000 in
theorem isNaN_any (n : Int) (w : World) : Calls Tryz.prog 188 #[.int .i64 n] w fun e w' => e = .returned (.bool false) ∧ w = w' := by
  go_enter Tryz.func188, Tryz.ntmps188
  go_wp2
  go_ret
  simp
set_option maxHeartbeats 1000000 in
theorem compare_any (n k : Int) (w : World) : Calls Tryz.prog 176 #[.int .i64 n, .int .i64 k] w fun e w' => e = .returned (.int .i64 (P.cmp n k)) ∧ w = w' := by
  by_cases h1 : n < k
  · have HC : Aside (P.cmp n k = -1) := by show _ = _; rw [P.cmp, if_pos h1]
    go_enter Tryz.func176, Tryz.ntmps176
    go_wp2_with (go_at_call 188; refine (isNaN_any _ _).mono ?_; rintro e w1 ⟨rfl, rfl⟩)
    go_ret
    exact ⟨ret_int HC.out.symm, rfl⟩
  · by_cases h2 : k < n
    · have HC : Aside (P.cmp n k = 1) := by show _ = _; rw [P.cmp, if_neg h1, if_pos h2]
      go_enter Tryz.func176, Tryz.ntmps176
      go_wp2_with (go_at_call 188; refine (isNaN_any _ _).mono ?_; rintro e w1 ⟨rfl, rfl⟩)
      go_ret
      exact ⟨ret_int HC.out.symm, rfl⟩
    · have HC : Aside (P.cmp n k = 0) := by show _ = _; rw [P.cmp, if_neg h1, if_neg h2]
      go_enter Tryz.func176, Tryz.ntmps176
      go_wp2_with (go_at_call 188; refine (isNaN_any _ _).mono ?_; rintro e w1 ⟨rfl, rfl⟩)
      go_ret
      exact ⟨ret_int HC.out.symm, rfl⟩
set_option maxHeartbeats 1000000 in
theorem place1_any (y : Bkg) (fo : Option Addr) (fc : Nat) (n : Int) (w : World) : Calls Tryz.prog 175 #[V.bk y fo fc, .int .i64 n] w fun e w' => e = .returned (.int .i64 (P.cmp y.id n)) ∧ Below w.heap.size w w' := by
  go_enter Tryz.func175, Tryz.ntmps175
  go_wp2_with (go_at_call 176; refine (compare_any _ _ _).mono ?_; rintro e w1 ⟨rfl, rfl⟩)
  go_ret
  exact ⟨rfl, by go_grown⟩
theorem place1_calls : ∀ (args : Array Value) (wx : World), (callFunc 175 args).run Tryz.prog wx = .ok (.enter 175 args) wx := enters_of Tryz.func175 (by kernel_rfl) rfl

/-- Where a number belongs. -/
structure PlaceIs (l : List Bkg) (t : Int) (k : Nat) : Prop where
  le : k ≤ l.length
  lo : ∀ y ∈ l.take k, y.id < t
  hi : ∀ y ∈ l.drop k, t ≤ y.id
theorem PlaceIs.found {l : List Bkg} {t : Int} {k : Nat} (h : PlaceIs l t k) (hr : l.Pairwise (fun a b => a.id < b.id)) : P.isIn t l = (match l[k]? with | some y => decide (y.id = t) | none => false) := by
  have e : P.isIn t l = (P.isIn t (l.take k) || P.isIn t (l.drop k)) := by
    rw [P.isIn, P.isIn, P.isIn, ← List.any_append, List.take_append_drop]
  have e1 : P.isIn t (l.take k) = false := List.any_eq_false.2 (fun y hy => by have := h.lo y hy; simp; omega)
  rw [e, e1, Bool.false_or]
  cases hk : l[k]? with
  | none =>
    have : l.length ≤ k := List.getElem?_eq_none_iff.1 hk
    rw [List.drop_of_length_le this]
    rfl
  | some y =>
    obtain ⟨hlt, rfl⟩ := List.getElem?_eq_some_iff.1 hk
    rw [P.isIn, List.drop_eq_getElem_cons hlt, List.any_cons]
    have hd : (l.drop (k + 1)).any (fun y => decide (y.id = t)) = false := List.any_eq_false.2 (fun z hz => by
      have h1 := h.hi l[k] (by have e := List.drop_eq_getElem_cons hlt; rw [e]; exact List.mem_cons_self)
      have h2 : l[k].id < z.id := by
        rw [← List.take_append_drop k l, List.pairwise_append, List.drop_eq_getElem_cons hlt, List.pairwise_cons] at hr
        exact hr.2.1.1 z hz
      simp
      omega)
    rw [hd, Bool.or_false]

set_option maxHeartbeats 4000000 in
theorem search_any (ao : Option Addr) (cap : Nat) (l : List Bkg) (t : Int) (w : World) (hl : BksAt w ao cap l) (h16 : l.length ≤ 1000) (hr : l.Pairwise (fun a b => a.id < b.id)) :
    Calls Tryz.prog 174 #[.slice ao l.length cap, .int .i64 t, .func (.func 175) #[] #[]] w fun e w' => ∃ k, PlaceIs l t k ∧ e = .returned (.tuple #[.int .i64 k, .bool (P.isIn t l)]) ∧ Below w.heap.size w w' := by
  have hle := hl.le
  have hmx := hl.max
  unfold maxLen at hmx
  have hcf := place1_calls
  have HR : Aside (l.Pairwise (fun a b => a.id < b.id)) := hr
  clear hr
  go_enter Tryz.func174, Tryz.ntmps174
  go_wp2_with fail
  go_loopg [9, 10] l.length (fun g iv jv wr => ∃ (i j : Nat), i ≤ j ∧ j ≤ l.length ∧ g = j - i ∧ iv = .int .i64 i ∧ jv = .int .i64 j ∧ Aside (∀ y ∈ l.take i, y.id < t) ∧ Aside (∀ y ∈ l.drop j, t ≤ y.id) ∧ Below w.heap.size w wr)
  case atStart => exact ⟨0, l.length, Nat.zero_le _, Nat.le_refl _, rfl, rfl, rfl, (fun y hy => by simp at hy), (fun y hy => by simp at hy), Below.refl _ _⟩
  case round =>
    obtain ⟨i, j, hij, hj, rfl, rfl, rfl, HLO, HHI, hB⟩ := hrel
    by_cases hlt : i < j
    · obtain ⟨h, hh⟩ : ∃ h : Nat, h = (i + j) / 2 := ⟨_, rfl⟩
      have hh1 : i ≤ h := by omega
      have hh2 : h < j := by omega
      have hsh : ((i : Int) + (j : Int)) / 2 = (h : Int) := by omega
      obtain ⟨b, off, y, fo, fc, rfl, hbw, hd, ⟨y0, y1, y2, y3, y4, y5, y6, y7, y8, y9, y10⟩, hfy⟩ := BksAt.get hl hB h (by omega)
      have HD : Aside (l.drop h = y :: l.drop (h + 1)) := hd
      have HH : Aside (h < l.length) := by show _ < _; omega
      clear hd hfy hh
      by_cases hyt : y.id < t
      · have HC : Aside (P.cmp y.id t = -1) := by show _ = _; rw [P.cmp, if_pos hyt]
        have HLO2 : Aside (∀ z ∈ l.take (h + 1), z.id < t) := fun z hz => by
          rw [take_snoc' HH.out HD.out] at hz
          rcases List.mem_append.1 hz with hz | hz
          · have hr := HR.out
            rw [← List.take_append_drop h l, List.pairwise_append, HD.out] at hr
            have := hr.2.2 z hz y (by simp)
            omega
          · simp at hz
            subst hz
            exact hyt
        clear hyt
        go_wp2_with fail
        refine (place1_any y fo fc t _).mono ?_
        rintro e w1 ⟨rfl, hb1⟩
        rw [HC.out]
        clear y0 y1 y2 y3 y4 y5 y6 y7 y8 y9 y10
        go_wp2
        go_roundg (j - (h + 1))
        case measure => omega
        case rel => exact ⟨h + 1, j, by omega, hj, rfl, by go_num, rfl, HLO2, HHI, bvia hB hb1⟩
      · have HC : Aside (¬ P.cmp y.id t < 0) := by show ¬ _; rw [P.cmp, if_neg hyt]; split <;> omega
        have hcn : decide (P.cmp y.id t < 0) = false := by simpa using HC.out
        have HHI2 : Aside (∀ z ∈ l.drop h, t ≤ z.id) := fun z hz => by
          rw [HD.out] at hz
          rcases List.mem_cons.1 hz with rfl | hz
          · omega
          · have hr := HR.out
            rw [← List.take_append_drop h l, List.pairwise_append, HD.out, List.pairwise_cons] at hr
            have := hr.2.1.1 z hz
            omega
        have hcn2 : ¬ P.cmp y.id t < 0 := HC.out
        clear hyt
        go_wp2_with fail
        refine (place1_any y fo fc t _).mono ?_
        rintro e w1 ⟨rfl, hb1⟩
        clear y0 y1 y2 y3 y4 y5 y6 y7 y8 y9 y10
        go_wp2
        go_roundg (h - i)
        case measure => omega
        case rel => exact ⟨i, h, by omega, by omega, rfl, rfl, by go_num, HLO, HHI2, bvia hB hb1⟩
    · obtain rfl : i = j := by omega
      have HP : Aside (PlaceIs l t i) := ⟨hj, HLO.out, HHI.out⟩
      have HI : Aside (P.isIn t l = (match l[i]? with | some y => decide (y.id = t) | none => false)) := PlaceIs.found HP.out HR.out
      clear HLO HHI hij
      by_cases hin : i < l.length
      · obtain ⟨b, off, y, fo, fc, rfl, hbw, hd, ⟨y0, y1, y2, y3, y4, y5, y6, y7, y8, y9, y10⟩, hfy⟩ := BksAt.get hl hB i hin
        have HJ : Aside (P.isIn t l = (P.cmp y.id t == 0)) := by
          have hi := HI.out
          have e : l[i]? = some y := by
            have := congrArg List.head? hd
            rwa [List.head?_drop] at this
          rw [e] at hi
          show _ = _
          rw [hi, P.cmp]
          by_cases h1 : y.id < t
          · rw [if_pos h1]
            simp
            omega
          · rw [if_neg h1]
            by_cases h2 : t < y.id
            · rw [if_pos h2]
              simp
              omega
            · rw [if_neg h2]
              simp
              omega
        have hin2 : (i : Int) < l.length := by omega
        clear hd hfy HI
        go_wp2_with fail
        refine (place1_any y fo fc t _).mono ?_
        rintro e w1 ⟨rfl, hb1⟩
        go_wp2
        go_ret2
        exact ⟨i, HP.out, by rw [HJ.out]; rfl, bvia hB hb1⟩
      · have hin2 : ¬ (i : Int) < l.length := by omega
        have HJ : Aside (P.isIn t l = false) := by
          have hi := HI.out
          rw [List.getElem?_eq_none (by omega)] at hi
          exact hi
        clear HI
        go_wp2
        go_ret2
        exact ⟨i, HP.out, by rw [HJ.out]; rfl, hB⟩

set_option maxHeartbeats 1000000 in
theorem place_any (x : Sail) (a : SailA) (t : Int) (w : World) (hs : SailAt w x a) (h16 : x.bks.length ≤ 1000) (hr : x.bks.Pairwise (fun a b => a.id < b.id)) :
    Calls Tryz.prog 151 #[V.sail x a, .int .i64 t] w fun e w' => ∃ k, PlaceIs x.bks t k ∧ e = .returned (.tuple #[.int .i64 k, .bool (P.isIn t x.bks)]) ∧ Below w.heap.size w w' := by
  have hb0 := sel_below w x a
  obtain ⟨d0, d1, d2, d3, d4, d5, d6, d7, d8, d9, d10, d11, d12⟩ := SRow.box (sel_row w x a)
  have hcf := place1_calls
  go_enter Tryz.func151, Tryz.ntmps151
  go_wp2_with fail
  refine (search_any a.ao a.cap x.bks t _ (SlAt.below RBk.mono hs.bks hb0) h16 hr).mono ?_
  rintro e w1 ⟨k, hk, rfl, hb1⟩
  clear d0 d1 d2 d3 d4 d5 d6 d7 d8 d9 d10 d11 d12
  go_wp2
  go_ret2
  exact ⟨k, hk, rfl, bvia hb0 hb1⟩

end Go.Proofs.YtpjfpgimpgmhcadGreat.St
