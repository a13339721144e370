/- The walk of SellOffers. -/
import Derived.Test.YtlamhfbdeinkkaeGreatSePs
import Derived.Test.YtlamhfbdeinkkaeGreatSeUs
import Derived.Test.YtlamhfbdeinkkaeGreatStAs
namespace Go.Proofs.YtlamhfbdeinkkaeGreat.St
open Go.RowKit Bk
set_option linter.unusedSimpArgs false
set_option linter.unusedVariables false
set_option maxRecDepth 10000

theorem least_ex' {l : List Bkg} (hr : l.Pairwise (fun a b => a.id < b.id)) : ∃ n : Nat, n ≤ l.length + 1 ∧ 1 ≤ n ∧ LeastIs l n := by
  have key : ∀ k, k ≤ l.length → ∃ n : Nat, n ≤ k + 1 ∧ LeastIs (l.take k) n := by
    intro k
    induction k with
    | zero => exact fun _ => ⟨1, by omega, ⟨by decide, fun m h1 h2 => by have h2 : m < 1 := h2; omega, rfl⟩⟩
    | succ k ih =>
      intro hk
      obtain ⟨n, hnk, h1, h2, h3⟩ := ih (by omega)
      obtain ⟨y, hd⟩ : ∃ y, l.drop k = y :: l.drop (k + 1) := ⟨l[k], List.drop_eq_getElem_cons (by omega)⟩
      have ht : l.take (k + 1) = l.take k ++ [y] := take_snoc' (by omega) hd
      by_cases hy : y.id = (n : Int)
      · have hlow : ∀ z ∈ l.take k, z.id < (n : Int) := fun z hz => by
          have hr := hr
          rw [← List.take_append_drop k l, List.pairwise_append, hd] at hr
          have := hr.2.2 z hz y (by simp)
          omega
        refine ⟨n + 1, by omega, ?_⟩
        rw [ht]
        refine ⟨by omega, fun m hm1 hm2 => ?_, ?_⟩
        · rw [isIn_snoc]
          rcases Int.lt_or_le m n with h | h
          · rw [h2 m hm1 h]; rfl
          · have : m = (n : Int) := by omega
            simp [hy, this]
        · rw [isIn_snoc]
          have : P.isIn ((n + 1 : Nat) : Int) (l.take k) = false := List.any_eq_false.2 (fun z hz => by have := hlow z hz; simp; omega)
          rw [this]
          simp [hy]
          omega
      · refine ⟨n, by omega, ?_⟩
        rw [ht]
        exact ⟨h1, fun m hm1 hm2 => by rw [isIn_snoc, h2 m hm1 hm2]; rfl, by rw [isIn_snoc, h3]; simp [hy]⟩
  obtain ⟨n, h1, h2⟩ := key l.length (Nat.le_refl _)
  rw [List.take_of_length_le (Nat.le_refl _)] at h2
  have := h2.pos
  exact ⟨n, h1, by omega, h2⟩
theorem batN {id : Int} {l : List Bkg} (h : P.isIn id l = false) : P.bat id 0 l = -1 := bat_neg.2 (fun b hb e => by
  have := List.any_eq_false.1 h b hb
  simp at this
  exact this e)
theorem batP {id : Int} {l : List Bkg} (h : P.isIn id l = true) : 0 ≤ P.bat id 0 l := by
  rcases bat_range (id := id) (i := 0) (l := l) with h1 | h1
  · obtain ⟨b, hb, e⟩ := List.any_eq_true.1 h
    rw [decide_eq_true_iff] at e
    exact absurd e (bat_neg.1 h1 b hb)
  · omega
theorem offs_zero {x : Sail} {g : Int} {lv : Bool} {f t : Int} {l : List Int} (h : P.OffS x g lv f t 0 l) : P.SailE x 0 ∧ ∃ n, LeastIs x.bks n ∧ OffIs x (P.who n g lv f t) x.s.bs.length l := by
  rcases h with ⟨q, h1, h2, h3, _⟩ | ⟨h1, _, _, h4⟩
  · exact absurd h3.symm h2
  · exact ⟨h1, h4 rfl⟩
theorem offs_err {x : Sail} {g : Int} {lv : Bool} {f t r : Int} {l : List Int} (h : P.OffS x g lv f t r l) (hr : ¬ r = 0) : l = [] := by
  rcases h with ⟨q, h1, h2, h3, h4⟩ | ⟨h1, _, h3, _⟩
  · exact h4
  · exact h3 hr
/-- Numbers of a list that rises: those ahead are less. -/
structure UpTo (l : List Int) (k c : Nat) : Prop where
  le : k ≤ l.length
  lo : ∀ z ∈ l.take k, z < (c : Int)
  hi : ∀ z ∈ l.drop k, (c : Int) ≤ z
theorem UpTo.zero {l : List Int} (h : ∀ z ∈ l, 0 ≤ z) : UpTo l 0 0 := ⟨Nat.zero_le _, by simp, by simpa using h⟩
theorem UpTo.hit {l : List Int} {k c : Nat} {z : Int} (h : UpTo l k c) (hu : l.Pairwise (· < ·)) (hd : l.drop k = z :: l.drop (k + 1)) (hz : z = (c : Int)) : UpTo l (k + 1) (c + 1) ∧ (c : Int) ∈ l := by
  have hlt : k < l.length := by
    have := congrArg List.length hd
    rw [List.length_drop, List.length_cons, List.length_drop] at this
    omega
  refine ⟨⟨hlt, fun y hy => ?_, fun y hy => ?_⟩, ?_⟩
  · rw [take_snoc' hlt hd] at hy
    rcases List.mem_append.1 hy with hy | hy
    · have := h.lo y hy; omega
    · simp at hy; omega
  · rw [← List.take_append_drop k l, hd, List.pairwise_append] at hu
    have := (List.pairwise_cons.1 hu.2.1).1 y hy
    omega
  · have : z ∈ l.drop k := by rw [hd]; simp
    rw [← hz]
    exact List.mem_of_mem_drop this
theorem UpTo.miss {l : List Int} {k c : Nat} (h : UpTo l k c) (hm : ∀ z, l.drop k = z :: l.drop (k + 1) → z ≠ (c : Int)) (hu : l.Pairwise (· < ·)) : UpTo l k (c + 1) ∧ ¬ (c : Int) ∈ l := by
  have hno : ¬ (c : Int) ∈ l := fun hc => by
    rw [← List.take_append_drop k l] at hc
    rcases List.mem_append.1 hc with h1 | h1
    · have := h.lo _ h1; omega
    · rcases Nat.lt_or_ge k l.length with hlt | hge
      · have hd : l.drop k = l[k] :: l.drop (k + 1) := List.drop_eq_getElem_cons hlt
        have hne := hm _ hd
        rw [hd] at h1
        rcases List.mem_cons.1 h1 with e | h2
        · exact hne e.symm
        · rw [← List.take_append_drop k l, hd, List.pairwise_append] at hu
          have h3 := (List.pairwise_cons.1 hu.2.1).1 _ h2
          have h4 := h.hi l[k] (by rw [hd]; exact List.mem_cons.2 (.inl rfl))
          omega
      · rw [List.drop_of_length_le hge] at h1
        simp at h1
  refine ⟨⟨h.le, fun z hz => by have := h.lo z hz; omega, fun z hz => ?_⟩, hno⟩
  have h1 := h.hi z hz
  have h2 : z ≠ (c : Int) := fun e => hno (by rw [← e]; exact List.mem_of_mem_drop hz)
  omega
theorem UpTo.full {l : List Int} {k c : Nat} (h : UpTo l k c) (hb : ∀ z ∈ l, z < (c : Int)) : k = l.length := by
  have hle := h.le
  rcases Nat.lt_or_ge k l.length with hlt | hge
  · have hd : l.drop k = l[k] :: l.drop (k + 1) := List.drop_eq_getElem_cons hlt
    have h1 := h.hi l[k] (by rw [hd]; exact List.mem_cons.2 (.inl rfl))
    have h2 := hb l[k] (List.getElem_mem hlt)
    omega
  · omega
theorem sellS_iff {x : Sail} {b : Bkg} {r : Int} {y : Sail} (hE : P.SailE x 0) (h : P.SellS 1 x b r y) : r = 0 ↔ ∃ y, P.Sells 1 x b 0 y := by
  have hs : P.Sells 1 x b r y := by
    rcases h with ⟨q, h1, h2, _, _⟩ | ⟨_, h⟩
    · exact absurd (SailE.one h1 hE) h2
    · exact h
  constructor
  · rintro rfl
    exact ⟨y, hs⟩
  · rintro ⟨z, hz⟩
    exact (Sells.one hs hz).1
/-- What is offered is sold, under whatever number that is free. -/
theorem off_sells {x : Sail} {g : Int} {lv : Bool} {f t n id : Int} {l : List Int} {c : Nat} {r : Int} {y : Sail} (hE : P.SailE x 0) (hn : LeastIs x.bks n) (ho : OffIs x (P.who n g lv f t) x.s.bs.length l) (hc : c < x.s.bs.length) (hid : 1 ≤ id ∧ id ≤ 999999) (hi : P.isIn id x.bks = false)
    (h : P.SellS 1 x (P.setC (P.who id g lv f t) c) r y) : r = 0 ↔ (c : Int) ∈ l := by
  obtain ⟨hp, _, _, _, h16, _⟩ := sail_ok hE
  obtain ⟨m, h1, h2, h3⟩ := least_ex' (bksI_rise (pre_zero hp).2.1).2
  obtain rfl := LeastIs.one hn h3
  rw [sellS_iff hE h, ho.iff c hc]
  exact (sells_any_num (b := P.setC (P.who m g lv f t) c) (n := id) (m := m) hE rfl (by omega) hid hi hn.out).symm

set_option maxHeartbeats 16000000 in
theorem sellOffers_walk (x : Sail) (a : SailA) (b : Bkg) (fo : Option Addr) (fc : Nat) (w : World) (hs : SailAt w x a) (hf : Fo.EntsAt w fo fc b.fol) :
    Calls Tryz.prog 4 #[V.sail x a, V.bk b fo fc] w fun e w' => e = .returned (.bool true) ∧ Below w.heap.size w w' := by
  have HS : Aside (SailAt w x a) := hs
  have HF : Aside (Fo.EntsAt w fo fc b.fol) := hf
  have hb0 : Below w.heap.size w (W.bk (W.sail w x a) b fo fc) := bvia (sail_below w x a) (bk_below _ b fo fc)
  have HX0 : Aside (SRow (W.bk (W.sail w x a) b fo fc) w.heap.size x a) := (RowIs.new w _ _ : SRow (W.sail w x a) w.heap.size x a).below (bk_below _ b fo fc)
  have HB0 : Aside (RowIs (W.bk (W.sail w x a) b fo fc) (w.heap.size + 1) (C.bk b fo fc)) := by
    have := RowIs.new (W.sail w x a) (C.bk b fo fc) 37
    rwa [World.size_alloc] at this
  clear hs hf
  obtain ⟨d0, d1, d2, d3, d4, d5, d6, d7, d8, d9, d10, d11, d12⟩ := SRow.box HX0.out
  obtain ⟨z0, z1, z2, z3, z4, z5, z6, z7, z8, z9, z10⟩ := HB0.out.bbox
  go_enter Tryz.func4, Tryz.ntmps4
  go_wp2_with fail
  refine (sellOffers_any x a b.guests b.level b.frm b.to _ (HS.out.below hb0)).mono ?_
  rintro e w1 ⟨r, v1, l, rfl, own1, hO, hb1⟩
  obtain ⟨ao, cap, rfl, hl1⟩ := OwnJ.at own1
  have hB1 := bvia hb0 hb1
  have HL : Aside (IntsAt w1 ao cap l) := hl1
  have HO : Aside (P.OffS x b.guests b.level b.frm b.to r l) := hO
  have HX1 : Aside (SRow w1 w.heap.size x a) := HX0.out.below hb1
  have HB1 : Aside (RowIs w1 (w.heap.size + 1) (C.bk b fo fc)) := HB0.out.below hb1
  clear d0 d1 d2 d3 d4 d5 d6 d7 d8 d9 d10 d11 d12 z0 z1 z2 z3 z4 z5 z6 z7 z8 z9 z10 own1 hl1 hO HX0 HB0 hb0 hb1
  go_wp2_with fail
  refine (sellBegun_any _).mono ?_
  rintro e w2 ⟨rfl, hb2⟩
  have hB2 := bvia hB1 hb2
  have HL2 : Aside (IntsAt w2 ao cap l) := SlAt.below RInt.mono HL.out hb2
  have HX2 : Aside (SRow w2 w.heap.size x a) := HX1.out.below hb2
  have HB2 : Aside (RowIs w2 (w.heap.size + 1) (C.bk b fo fc)) := HB1.out.below hb2
  clear HX1 HB1 HL hb2 hB1
  cases hr : (r != 0)
  rotate_left
  · obtain rfl := offs_err HO.out (by simpa using hr)
    go_wp2
    go_ret
    exact ⟨rfl, hB2⟩
  obtain rfl : r = 0 := by simpa using hr
  obtain ⟨hE, n, hn, hoff⟩ := offs_zero HO.out
  have HE : Aside (P.SailE x 0) := hE
  have HN : Aside (LeastIs x.bks n) := hn
  have HOF : Aside (OffIs x (P.who n b.guests b.level b.frm b.to) x.s.bs.length l) := hoff
  clear hE hn hoff HO hr
  obtain ⟨d0, d1, d2, d3, d4, d5, d6, d7, d8, d9, d10, d11, d12⟩ := SRow.box HX2.out
  have z0 := HB2.out.cell 0
  go_wp2_with fail
  refine (bookingAt_any x a b.id _ (HS.out.below hB2)).mono ?_
  rintro e w3 ⟨rfl, hb3⟩
  have hB3 := bvia hB2 hb3
  have HL3 : Aside (IntsAt w3 ao cap l) := SlAt.below RInt.mono HL2.out hb3
  have HX3 : Aside (SRow w3 w.heap.size x a) := HX2.out.below hb3
  have HB3 : Aside (RowIs w3 (w.heap.size + 1) (C.bk b fo fc)) := HB2.out.below hb3
  clear d0 d1 d2 d3 d4 d5 d6 d7 d8 d9 d10 d11 d12 z0 HX2 HB2 HL2 hb3 hB2
  have z0 : w3.cell? ⟨w.heap.size + 1, 0, none⟩ = some (.int .i64 b.id) := HB3.out.cell 0
  cases hin : P.isIn b.id x.bks
  rotate_left
  · have hba : (0 : Int) ≤ P.bat b.id 0 x.bks := batP hin
    go_wp2
    go_ret
    exact ⟨rfl, hB3⟩
  have HIN : Aside (P.isIn b.id x.bks = false) := hin
  have hba : P.bat b.id 0 x.bks = -1 := batN hin
  rw [hba]
  clear hba hin
  by_cases hi1 : b.id < 1
  · go_wp2
    go_ret
    exact ⟨rfl, hB3⟩
  by_cases hi2 : 999999 < b.id
  · go_wp2
    go_ret
    exact ⟨rfl, hB3⟩
  have HID : Aside (1 ≤ b.id ∧ b.id ≤ 999999) := ⟨by omega, by omega⟩
  have hbs : x.s.bs.length ≤ 12 := (shp_size (sail_ok HE.out).2.2.1).2.2.2.2.2.2.2
  have hle3 := HL3.out.le
  have hmx3 := HL3.out.max
  unfold maxLen at hmx3
  go_wp2
  clear z0 hi1 hi2
  go_loopg [7, 8] x.s.bs.length (fun q kv cv wr => ∃ (c k : Nat), c ≤ x.s.bs.length ∧ k ≤ l.length ∧ q = x.s.bs.length - c ∧ kv = .int .i64 k ∧ cv = .int .i64 c ∧ Aside (UpTo l k c) ∧ Aside (SRow wr w.heap.size x a) ∧ Aside (RowIs wr (w.heap.size + 1) (C.bk b fo fc)) ∧ Aside (IntsAt wr ao cap l) ∧ Below w.heap.size w wr)
  case atStart => exact ⟨0, 0, Nat.zero_le _, Nat.zero_le _, rfl, rfl, rfl, UpTo.zero (fun z hz => (HOF.out.lo z hz).1), HX3, HB3, HL3, hB3⟩
  case round =>
    clear HX3 HB3 HL3 hB3
    obtain ⟨c, k, hc, hk, rfl, rfl, rfl, HU, HX, HB, HL, hB⟩ := hrel
    by_cases hlt : c < x.s.bs.length
    · have hci : (c : Int) < x.s.bs.length := by omega
      obtain ⟨d0, d1, d2, d3, d4, d5, d6, d7, d8, d9, d10, d11, d12⟩ := SRow.box HX.out
      obtain ⟨z0, z1, z2, z3, z4, z5, z6, z7, z8, z9, z10⟩ := HB.out.bbox
      have hx1 : w.heap.size < wr.heap.size := HX.out.lt
      have hx2 : w.heap.size + 1 < wr.heap.size := HB.out.lt
      go_wp2_with fail
      refine (sellNamed_any x a (P.setC (P.who b.id b.guests b.level b.frm b.to) c) none 0 _ (HS.out.below (bvia hB (al _ _))) (SlAt.nilOf _)).mono ?_
      rintro e w4 ⟨r, y, a4, rfl, hS4, hU4, hb4⟩
      have HIF : Aside (r = 0 ↔ (c : Int) ∈ l) := off_sells HE.out HN.out HOF.out hlt HID.out HIN.out hS4
      have hb5 : Below wr.heap.size wr (W.sail w4 y a4) := bvia (al _ _) (bvia hb4 (sail_below w4 y a4))
      have HX5 : Aside (SRow (W.sail w4 y a4) w.heap.size x a) := HX.out.below hb5
      have HB5 : Aside (RowIs (W.sail w4 y a4) (w.heap.size + 1) (C.bk b fo fc)) := HB.out.below hb5
      have HL5 : Aside (IntsAt (W.sail w4 y a4) ao cap l) := SlAt.below RInt.mono HL.out hb5
      have hB5 := bvia hB hb5
      clear d0 d1 d2 d3 d4 d5 d6 d7 d8 d9 d10 d11 d12 z0 z1 z2 z3 z4 z5 z6 z7 z8 z9 z10 hS4 hU4 hb4 HX HB HL hB hb5
      by_cases hk2 : k < l.length
      · have hki : (k : Int) < l.length := by omega
        obtain ⟨b6, o6, z, hao, hb6, hd, hz6⟩ := IntsAt.get HL5.out (Below.refl _ _) k hk2
        subst hao
        by_cases hz : z = (c : Int)
        · obtain ⟨hu2, hin⟩ := HU.out.hit HOF.out.up hd hz
          have HU2 : Aside (UpTo l (k + 1) (c + 1)) := hu2
          obtain rfl : r = 0 := HIF.out.2 hin
          subst hz
          clear HU HIF hu2 hin hd
          go_wp2
          go_roundg (x.s.bs.length - (c + 1))
          case measure => omega
          case rel => exact ⟨c + 1, k + 1, by omega, by omega, rfl, by go_num, by go_num, HU2, HX5, HB5, HL5, hB5⟩
        · obtain ⟨hu2, hno⟩ := HU.out.miss (fun z' hd' => by rw [hd] at hd'; rw [← (List.cons.inj hd').1]; exact hz) HOF.out.up
          have HU2 : Aside (UpTo l k (c + 1)) := hu2
          have hr0 : (r == 0) = false := by simpa using fun e => hno (HIF.out.1 e)
          have hzc : (z == (c : Int)) = false := by simpa using hz
          clear HU HIF hu2 hno hd hz
          go_wp2
          go_roundg (x.s.bs.length - (c + 1))
          case measure => omega
          case rel => exact ⟨c + 1, k, by omega, by omega, rfl, by go_num, by go_num, HU2, HX5, HB5, HL5, hB5⟩
      · have hki : ¬ (k : Int) < l.length := by omega
        obtain ⟨hu2, hno⟩ := HU.out.miss (fun z' hd' => by rw [List.drop_of_length_le (by omega)] at hd'; cases hd') HOF.out.up
        have HU2 : Aside (UpTo l k (c + 1)) := hu2
        have hr0 : (r == 0) = false := by simpa using fun e => hno (HIF.out.1 e)
        clear HU HIF hu2 hno
        go_wp2
        go_roundg (x.s.bs.length - (c + 1))
        case measure => omega
        case rel => exact ⟨c + 1, k, by omega, by omega, rfl, by go_num, by go_num, HU2, HX5, HB5, HL5, hB5⟩
    · obtain rfl : c = x.s.bs.length := by omega
      obtain rfl : k = l.length := HU.out.full (fun z hz => (HOF.out.lo z hz).2)
      have d3 := HX.out.cell 3
      go_wp2
      go_ret
      exact ⟨rfl, hB⟩

end Go.Proofs.YtlamhfbdeinkkaeGreat.St
