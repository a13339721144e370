/- Package sell: its small ones; the place of a number. -/
import Derived.Test.YtlamhfbdeinkkaeGreatAnDr
namespace Go.Proofs.YtlamhfbdeinkkaeGreat.St
open Go.RowKit Bk
set_option linter.unusedSimpArgs false
set_option linter.unusedVariables false
set_option maxRecDepth 10000

abbrev W.sel (w : World) (x : Sail) (a : SailA) : World :=
  w.alloc (.cells #[.int .i64 x.s.legs, .int .i64 x.s.souls, .slice a.v.cao x.s.cs.length a.v.cc, .slice a.v.bao x.s.bs.length a.v.bc, .slice a.lo x.L.length a.lc, .int .i64 x.al, .int .i64 x.th, .slice a.bo x.B.length a.bc, .int .i64 x.dn, .int .i64 x.day, .int .i64 x.lvs, .slice a.ao x.bks.length a.cap, .bool x.cl] 88)
theorem sel_row (w : World) (x : Sail) (a : SailA) : SRow (W.sel w x a) w.heap.size x a := RowIs.new w _ _
theorem sel_below (w : World) (x : Sail) (a : SailA) : Below w.heap.size w (W.sel w x a) := by go_grown

def P.sold (b : Bkg) (k : Int) : Bool := decide (b.kind = k) && decide (b.state ≠ 3)
set_option maxHeartbeats 1000000 in
theorem isSold_any (b : Bkg) (fo : Option Addr) (fc : Nat) (k : Int) (w : World) :
    Calls Tryz.prog 101 #[V.bk b fo fc, .int .i64 k] w fun e w' => e = .returned (.bool (P.sold b k)) ∧ Below w.heap.size w w' := by
  cases h1 : (b.kind == k)
  all_goals
    go_enter Tryz.func101, Tryz.ntmps101
    go_wp2
    go_ret
    exact ⟨ret_bool (by simp at h1; by_cases h2 : b.state = 3 <;> simp [P.sold, h1, h2]), by go_grown⟩
set_option maxHeartbeats 1000000 in
theorem hasLeft_any (x : Sail) (a : SailA) (w : World) :
    Calls Tryz.prog 59 #[V.sail x a] w fun e w' => e = .returned (.bool (decide (x.lvs ≤ x.day))) ∧ Below w.heap.size w w' := by
  obtain ⟨d0, d1, d2, d3, d4, d5, d6, d7, d8, d9, d10, d11, d12⟩ := SRow.box (sel_row w x a)
  go_enter Tryz.func59, Tryz.ntmps59
  go_wp2
  go_ret
  exact ⟨ret_bool rfl, by go_grown⟩
set_option maxHeartbeats 1000000 in
theorem isFull_any (x : Sail) (a : SailA) (w : World) :
    Calls Tryz.prog 60 #[V.sail x a] w fun e w' => e = .returned (.bool (decide (16 ≤ x.bks.length))) ∧ Below w.heap.size w w' := by
  obtain ⟨d0, d1, d2, d3, d4, d5, d6, d7, d8, d9, d10, d11, d12⟩ := SRow.box (sel_row w x a)
  go_enter Tryz.func60, Tryz.ntmps60
  go_wp2
  go_ret
  exact ⟨ret_bool (by by_cases h : 16 ≤ x.bks.length <;> simp [h] <;> omega), by go_grown⟩
set_option maxHeartbeats 2000000 in
theorem mayWait_any (x : Sail) (a : SailA) (b : Bkg) (fo : Option Addr) (fc : Nat) (w : World) :
    Calls Tryz.prog 102 #[V.sail x a, V.bk b fo fc] w fun e w' => e = .returned (.bool (P.waits x b)) ∧ Below w.heap.size w w' := by
  have hb0 : Below w.heap.size w (W.bk (W.sel w x a) b fo fc) := bvia (sel_below w x a) (bk_below _ b fo fc)
  obtain ⟨d0, d1, d2, d3, d4, d5, d6, d7, d8, d9, d10, d11, d12⟩ := (SRow.box (sel_row w x a)).below (bk_below _ b fo fc)
  obtain ⟨z0, z1, z2, z3, z4, z5, z6, z7, z8, z9, z10⟩ := BBox.new (W.sel w x a) b fo fc
  cases h1 : (b.state != 1)
  · by_cases h2 : x.day ≤ b.til
    · go_enter Tryz.func102, Tryz.ntmps102
      go_wp2
      go_ret
      exact ⟨ret_bool (by simp at h1; simp [P.waits, h1, h2]), by go_grown⟩
    · go_enter Tryz.func102, Tryz.ntmps102
      go_wp2
      go_ret
      exact ⟨ret_bool (by simp at h1; simp [P.waits, h1]; intros; omega), by go_grown⟩
  · go_enter Tryz.func102, Tryz.ntmps102
    go_wp2
    go_ret
    exact ⟨ret_bool (by simp at h1; simp [P.waits, h1]), by go_grown⟩

/-- Which of two numbers is less. -/
def P.cmp (a b : Int) : Int := if a < b then -1 else if b < a then 1 else 0
set_option maxHeartbeats 400000 in
theorem isNaN_any (n : Int) (w : World) : Calls Tryz.prog 238 #[.int .i64 n] w fun e w' => e = .returned (.bool false) ∧ w = w' := by
  go_enter Tryz.func238, Tryz.ntmps238
  go_wp2
  go_ret
  simp
set_option maxHeartbeats 1000000 in
theorem compare_any (n k : Int) (w : World) : Calls Tryz.prog 203 #[.int .i64 n, .int .i64 k] w fun e w' => e = .returned (.int .i64 (P.cmp n k)) ∧ w = w' := by
  by_cases h1 : n < k
  · have HC : Aside (P.cmp n k = -1) := by show _ = _; rw [P.cmp, if_pos h1]
    go_enter Tryz.func203, Tryz.ntmps203
    go_wp2_with (go_at_call 238; refine (isNaN_any _ _).mono ?_; rintro e w1 ⟨rfl, rfl⟩)
    go_ret
    exact ⟨ret_int HC.out.symm, rfl⟩
  · by_cases h2 : k < n
    · have HC : Aside (P.cmp n k = 1) := by show _ = _; rw [P.cmp, if_neg h1, if_pos h2]
      go_enter Tryz.func203, Tryz.ntmps203
      go_wp2_with (go_at_call 238; refine (isNaN_any _ _).mono ?_; rintro e w1 ⟨rfl, rfl⟩)
      go_ret
      exact ⟨ret_int HC.out.symm, rfl⟩
    · have HC : Aside (P.cmp n k = 0) := by show _ = _; rw [P.cmp, if_neg h1, if_neg h2]
      go_enter Tryz.func203, Tryz.ntmps203
      go_wp2_with (go_at_call 238; refine (isNaN_any _ _).mono ?_; rintro e w1 ⟨rfl, rfl⟩)
      go_ret
      exact ⟨ret_int HC.out.symm, rfl⟩
set_option maxHeartbeats 1000000 in
theorem place1_any (y : Bkg) (fo : Option Addr) (fc : Nat) (n : Int) (w : World) : Calls Tryz.prog 202 #[V.bk y fo fc, .int .i64 n] w fun e w' => e = .returned (.int .i64 (P.cmp y.id n)) ∧ Below w.heap.size w w' := by
  go_enter Tryz.func202, Tryz.ntmps202
  go_wp2_with (go_at_call 203; refine (compare_any _ _ _).mono ?_; rintro e w1 ⟨rfl, rfl⟩)
  go_ret
  exact ⟨rfl, by go_grown⟩
theorem place1_calls : ∀ (args : Array Value) (wx : World), (callFunc 202 args).run Tryz.prog wx = .ok (.enter 202 args) wx := enters_of Tryz.func202 (by kernel_rfl) rfl

/-- Where a number belongs. -/
structure PlaceIs (l : List Bkg) (t : Int) (k : Nat) : Prop where
  le : k ≤ l.length
  lo : ∀ y ∈ l.take k, y.id < t
  hi : ∀ y ∈ l.drop k, t ≤ y.id
theorem PlaceIs.found {l : List Bkg} {t : Int} {k : Nat} (h : PlaceIs l t k) (hr : l.Pairwise (fun a b => a.id < b.id)) : P.isIn t l = (match l[k]? with | some y => decide (y.id = t) | none => false) := by
  have e : P.isIn t l = (P.isIn t (l.take k) || P.isIn t (l.drop k)) := by
    rw [P.isIn, P.isIn, P.isIn, ← List.any_append, List.take_append_drop]
  have e1 : P.isIn t (l.take k) = false := List.any_eq_false.2 (fun y hy => by have := h.lo y hy; simp; omega)
  rw [e, e1, Bool.false_or]
  cases hk : l[k]? with
  | none =>
    have : l.length ≤ k := List.getElem?_eq_none_iff.1 hk
    rw [List.drop_of_length_le this]
    rfl
  | some y =>
    obtain ⟨hlt, rfl⟩ := List.getElem?_eq_some_iff.1 hk
    rw [P.isIn, List.drop_eq_getElem_cons hlt, List.any_cons]
    have hd : (l.drop (k + 1)).any (fun y => decide (y.id = t)) = false := List.any_eq_false.2 (fun z hz => by
      have h1 := h.hi l[k] (by have e := List.drop_eq_getElem_cons hlt; rw [e]; exact List.mem_cons_self)
      have h2 : l[k].id < z.id := by
        rw [← List.take_append_drop k l, List.pairwise_append, List.drop_eq_getElem_cons hlt, List.pairwise_cons] at hr
        exact hr.2.1.1 z hz
      simp
      omega)
    rw [hd, Bool.or_false]

set_option maxHeartbeats 4000000 in
theorem search_any (ao : Option Addr) (cap : Nat) (l : List Bkg) (t : Int) (w : World) (hl : BksAt w ao cap l) (h16 : l.length ≤ 1000) (hr : l.Pairwise (fun a b => a.id < b.id)) :
    Calls Tryz.prog 201 #[.slice ao l.length cap, .int .i64 t, .func (.func 202) #[] #[]] w fun e w' => ∃ k, PlaceIs l t k ∧ e = .returned (.tuple #[.int .i64 k, .bool (P.isIn t l)]) ∧ Below w.heap.size w w' := by
  have hle := hl.le
  have hmx := hl.max
  unfold maxLen at hmx
  have hcf := place1_calls
  have HR : Aside (l.Pairwise (fun a b => a.id < b.id)) := hr
  clear hr
  go_enter Tryz.func201, Tryz.ntmps201
  go_wp2_with fail
  go_loopg [9, 10] l.length (fun g iv jv wr => ∃ (i j : Nat), i ≤ j ∧ j ≤ l.length ∧ g = j - i ∧ iv = .int .i64 i ∧ jv = .int .i64 j ∧ Aside (∀ y ∈ l.take i, y.id < t) ∧ Aside (∀ y ∈ l.drop j, t ≤ y.id) ∧ Below w.heap.size w wr)
  case atStart => exact ⟨0, l.length, Nat.zero_le _, Nat.le_refl _, rfl, rfl, rfl, (fun y hy => by simp at hy), (fun y hy => by simp at hy), Below.refl _ _⟩
  case round =>
    obtain ⟨i, j, hij, hj, rfl, rfl, rfl, HLO, HHI, hB⟩ := hrel
    by_cases hlt : i < j
    · obtain ⟨h, hh⟩ : ∃ h : Nat, h = (i + j) / 2 := ⟨_, rfl⟩
      have hh1 : i ≤ h := by omega
      have hh2 : h < j := by omega
      have hsh : ((i : Int) + (j : Int)) / 2 = (h : Int) := by omega
      obtain ⟨b, off, y, fo, fc, rfl, hbw, hd, ⟨y0, y1, y2, y3, y4, y5, y6, y7, y8, y9, y10⟩, hfy⟩ := BksAt.get hl hB h (by omega)
      have HD : Aside (l.drop h = y :: l.drop (h + 1)) := hd
      have HH : Aside (h < l.length) := by show _ < _; omega
      clear hd hfy hh
      by_cases hyt : y.id < t
      · have HC : Aside (P.cmp y.id t = -1) := by show _ = _; rw [P.cmp, if_pos hyt]
        have HLO2 : Aside (∀ z ∈ l.take (h + 1), z.id < t) := fun z hz => by
          rw [take_snoc' HH.out HD.out] at hz
          rcases List.mem_append.1 hz with hz | hz
          · have hr := HR.out
            rw [← List.take_append_drop h l, List.pairwise_append, HD.out] at hr
            have := hr.2.2 z hz y (by simp)
            omega
          · simp at hz
            subst hz
            exact hyt
        clear hyt
        go_wp2_with fail
        refine (place1_any y fo fc t _).mono ?_
        rintro e w1 ⟨rfl, hb1⟩
        rw [HC.out]
        clear y0 y1 y2 y3 y4 y5 y6 y7 y8 y9 y10
        go_wp2
        go_roundg (j - (h + 1))
        case measure => omega
        case rel => exact ⟨h + 1, j, by omega, hj, rfl, by go_num, rfl, HLO2, HHI, bvia hB hb1⟩
      · have HC : Aside (¬ P.cmp y.id t < 0) := by show ¬ _; rw [P.cmp, if_neg hyt]; split <;> omega
        have hcn : decide (P.cmp y.id t < 0) = false := by simpa using HC.out
        have HHI2 : Aside (∀ z ∈ l.drop h, t ≤ z.id) := fun z hz => by
          rw [HD.out] at hz
          rcases List.mem_cons.1 hz with rfl | hz
          · omega
          · have hr := HR.out
            rw [← List.take_append_drop h l, List.pairwise_append, HD.out, List.pairwise_cons] at hr
            have := hr.2.1.1 z hz
            omega
        have hcn2 : ¬ P.cmp y.id t < 0 := HC.out
        clear hyt
        go_wp2_with fail
        refine (place1_any y fo fc t _).mono ?_
        rintro e w1 ⟨rfl, hb1⟩
        clear y0 y1 y2 y3 y4 y5 y6 y7 y8 y9 y10
        go_wp2
        go_roundg (h - i)
        case measure => omega
        case rel => exact ⟨i, h, by omega, by omega, rfl, rfl, by go_num, HLO, HHI2, bvia hB hb1⟩
    · obtain rfl : i = j := by omega
      have HP : Aside (PlaceIs l t i) := ⟨hj, HLO.out, HHI.out⟩
      have HI : Aside (P.isIn t l = (match l[i]? with | some y => decide (y.id = t) | none => false)) := PlaceIs.found HP.out HR.out
      clear HLO HHI hij
      by_cases hin : i < l.length
      · obtain ⟨b, off, y, fo, fc, rfl, hbw, hd, ⟨y0, y1, y2, y3, y4, y5, y6, y7, y8, y9, y10⟩, hfy⟩ := BksAt.get hl hB i hin
        have HJ : Aside (P.isIn t l = (P.cmp y.id t == 0)) := by
          have hi := HI.out
          have e : l[i]? = some y := by
            have := congrArg List.head? hd
            rwa [List.head?_drop] at this
          rw [e] at hi
          show _ = _
          rw [hi, P.cmp]
          by_cases h1 : y.id < t
          · rw [if_pos h1]
            simp
            omega
          · rw [if_neg h1]
            by_cases h2 : t < y.id
            · rw [if_pos h2]
              simp
              omega
            · rw [if_neg h2]
              simp
              omega
        have hin2 : (i : Int) < l.length := by omega
        clear hd hfy HI
        go_wp2_with fail
        refine (place1_any y fo fc t _).mono ?_
        rintro e w1 ⟨rfl, hb1⟩
        go_wp2
        go_ret2
        exact ⟨i, HP.out, by rw [HJ.out]; rfl, bvia hB hb1⟩
      · have hin2 : ¬ (i : Int) < l.length := by omega
        have HJ : Aside (P.isIn t l = false) := by
          have hi := HI.out
          rw [List.getElem?_eq_none (by omega)] at hi
          exact hi
        clear HI
        go_wp2
        go_ret2
        exact ⟨i, HP.out, by rw [HJ.out]; rfl, hB⟩

set_option maxHeartbeats 1000000 in
theorem place_any (x : Sail) (a : SailA) (t : Int) (w : World) (hs : SailAt w x a) (h16 : x.bks.length ≤ 1000) (hr : x.bks.Pairwise (fun a b => a.id < b.id)) :
    Calls Tryz.prog 160 #[V.sail x a, .int .i64 t] w fun e w' => ∃ k, PlaceIs x.bks t k ∧ e = .returned (.tuple #[.int .i64 k, .bool (P.isIn t x.bks)]) ∧ Below w.heap.size w w' := by
  have hb0 := sel_below w x a
  obtain ⟨d0, d1, d2, d3, d4, d5, d6, d7, d8, d9, d10, d11, d12⟩ := SRow.box (sel_row w x a)
  have hcf := place1_calls
  go_enter Tryz.func160, Tryz.ntmps160
  go_wp2_with fail
  refine (search_any a.ao a.cap x.bks t _ (SlAt.below RBk.mono hs.bks hb0) h16 hr).mono ?_
  rintro e w1 ⟨k, hk, rfl, hb1⟩
  clear d0 d1 d2 d3 d4 d5 d6 d7 d8 d9 d10 d11 d12
  go_wp2
  go_ret2
  exact ⟨k, hk, rfl, bvia hb0 hb1⟩

end Go.Proofs.YtlamhfbdeinkkaeGreat.St
