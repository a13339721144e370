/- The reference: OffersOf. -/
import Derived.Test.YtpjfpgimpgmhcadGreatSeVo
import Derived.Test.YtpjfpgimpgmhcadGreatSeGo
import Derived.Test.YtpjfpgimpgmhcadGreatStZo
namespace Go.Proofs.YtpjfpgimpgmhcadGreat.St
open Go.RowKit Bk
set_option linter.unusedSimpArgs false
set_option linter.unusedVariables false
set_option maxRecDepth 10000

theorem least_ex {l : List Bkg} (hr : l.Pairwise (fun a b => a.id < b.id)) : ∃ n : Nat, n ≤ l.length + 1 ∧ 1 ≤ n ∧ LeastIs l n := by
  have key : ∀ k, k ≤ l.length → ∃ n : Nat, n ≤ k + 1 ∧ LeastIs (l.take k) n := by
    intro k
    induction k with
    | zero => exact fun _ => ⟨1, by omega, ⟨by decide, fun m h1 h2 => by have h2 : m < 1 := h2; omega, rfl⟩⟩
    | succ k ih =>
      intro hk
      obtain ⟨n, hnk, h1, h2, h3⟩ := ih (by omega)
      obtain ⟨y, hd⟩ : ∃ y, l.drop k = y :: l.drop (k + 1) := ⟨l[k], List.drop_eq_getElem_cons (by omega)⟩
      have ht : l.take (k + 1) = l.take k ++ [y] := take_snoc' (by omega) hd
      by_cases hy : y.id = (n : Int)
      · have hlow : ∀ z ∈ l.take k, z.id < (n : Int) := fun z hz => by
          have hr := hr
          rw [← List.take_append_drop k l, List.pairwise_append, hd] at hr
          have := hr.2.2 z hz y (by simp)
          omega
        refine ⟨n + 1, by omega, ?_⟩
        rw [ht]
        refine ⟨by omega, fun m hm1 hm2 => ?_, ?_⟩
        · rw [isIn_snoc]
          rcases Int.lt_or_le m n with h | h
          · rw [h2 m hm1 h]; rfl
          · have : m = (n : Int) := by omega
            simp [hy, this]
        · rw [isIn_snoc]
          have : P.isIn ((n + 1 : Nat) : Int) (l.take k) = false := List.any_eq_false.2 (fun z hz => by have := hlow z hz; simp; omega)
          rw [this]
          simp [hy]
          omega
      · refine ⟨n, by omega, ?_⟩
        rw [ht]
        exact ⟨h1, fun m hm1 hm2 => by rw [isIn_snoc, h2 m hm1 hm2]; rfl, by rw [isIn_snoc, h3]; simp [hy]⟩
  obtain ⟨n, h1, h2⟩ := key l.length (Nat.le_refl _)
  rw [List.take_of_length_le (Nat.le_refl _)] at h2
  have := h2.pos
  exact ⟨n, h1, by omega, h2⟩


abbrev W.ofs (w : World) (x : Sail) (a : SailA) (f t : Int) : World := (W.sail w x a).alloc (.cells #[.int .i64 f, .int .i64 t] 39)
set_option maxHeartbeats 16000000 in
theorem offersOf_any (hWB : WithOwn) (x : Sail) (a : SailA) (g : Int) (lv : Bool) (f t : Int) (w : World) (hs : SailAt w x a) (hE : P.SailE x 0) :
    Calls Tryz.prog 32 #[V.sail x a, .int .i64 g, .bool lv, .agg #[.int .i64 f, .int .i64 t]] w fun e w' => ∃ n v l, e = .returned v ∧ LeastIs x.bks n ∧ OwnJ w' w.heap.size v l ∧ OffIs x (P.who n g lv f t) x.s.bs.length l ∧ Below w.heap.size w w' := by
  obtain ⟨hp, _, h0, _, h16, _⟩ := sail_ok hE
  have hbs := (shp_size h0).2.2.2.2.2.2.2
  obtain ⟨n, hn1, hn2, hL⟩ := least_ex (bksI_rise (pre_zero hp).2.1).2
  have HL : Aside (LeastIs x.bks n) := hL
  have HS : Aside (SailAt w x a) := hs
  have HE : Aside (P.SailE x 0) := hE
  have HWB : Aside WithOwn := hWB
  have hb0 : Below w.heap.size w (W.ofs w x a f t) := bvia (sail_below w x a) (al _ _)
  have HX0 : Aside (SRow (W.ofs w x a f t) w.heap.size x a) := (RowIs.new w _ _ : SRow (W.sail w x a) w.heap.size x a).below (al _ _)
  have HP0 : Aside (RowIs (W.ofs w x a f t) (w.heap.size + 1) #[.int .i64 f, .int .i64 t]) := by
    have := RowIs.new (W.sail w x a) #[.int .i64 f, .int .i64 t] 39
    rwa [World.size_alloc] at this
  clear hs hE hWB hp h0 hL
  obtain ⟨d0, d1, d2, d3, d4, d5, d6, d7, d8, d9, d10, d11, d12⟩ := SRow.box HX0.out
  go_enter Tryz.func32, Tryz.ntmps32
  go_wp2
  clear d0 d1 d2 d3 d4 d5 d6 d7 d8 d9 d10 d11 d12
  go_loopg [9] (n - 1) (fun q iv wr => ∃ m : Nat, 1 ≤ m ∧ m ≤ n ∧ q = n - m ∧ iv = .int .i64 m ∧ Aside (SRow wr w.heap.size x a) ∧ Aside (RowIs wr (w.heap.size + 1) #[.int .i64 f, .int .i64 t]) ∧ Below w.heap.size w wr)
  case atStart => exact ⟨1, by omega, hn2, by omega, rfl, HX0, HP0, hb0⟩
  case round =>
    clear HX0 HP0 hb0
    obtain ⟨m, hm1, hmn, rfl, rfl, HX, HP, hB⟩ := hrel
    obtain ⟨d0, d1, d2, d3, d4, d5, d6, d7, d8, d9, d10, d11, d12⟩ := SRow.box HX.out
    go_wp2_with fail
    refine (bookingAt_any x a m _ (HS.out.below hB)).mono ?_
    rintro e w1 ⟨rfl, hb1⟩
    have hB1 := bvia hB hb1
    have HX1 : Aside (SRow w1 w.heap.size x a) := HX.out.below hb1
    have HP1 : Aside (RowIs w1 (w.heap.size + 1) #[.int .i64 f, .int .i64 t]) := HP.out.below hb1
    clear d0 d1 d2 d3 d4 d5 d6 d7 d8 d9 d10 d11 d12 HX HP hB hb1
    by_cases hlt : m < n
    · have hba : (0 : Int) ≤ P.bat m 0 x.bks := bat_is (HL.out.all m (by omega) (by omega))
      go_wp2
      go_roundg (n - (m + 1))
      case measure => omega
      case rel => exact ⟨m + 1, by omega, by omega, rfl, by go_num, HX1, HP1, hB1⟩
    · obtain rfl : m = n := by omega
      have hba : P.bat m 0 x.bks = -1 := bat_not HL.out.out
      rw [hba]
      clear hba
      go_wp2
      go_loopg [10, 11] x.s.bs.length (fun q v iv wq => ∃ (k : Nat) (l : List Int), k ≤ x.s.bs.length ∧ q = x.s.bs.length - k ∧ iv = .int .i64 k ∧ Aside (OwnJ wq (w.heap.size + 1 + 1) v l) ∧ Aside (OffIs x (P.who m g lv f t) k l) ∧ Aside (SRow wq w.heap.size x a) ∧ Aside (RowIs wq (w.heap.size + 1) #[.int .i64 f, .int .i64 t]) ∧ Below w.heap.size w wq)
      case atStart => exact ⟨0, [], Nat.zero_le _, rfl, rfl, OwnC.nil _ _, OffIs.nil x _, HX1, HP1, hB1⟩
      case round =>
        clear HX1 HP1 hB1
        obtain ⟨k, l, hk, rfl, rfl, HO, HOF, HX, HP, hB⟩ := hrel
        by_cases hkl : k < x.s.bs.length
        · have hki : (k : Int) < x.s.bs.length := by omega
          obtain ⟨d0, d1, d2, d3, d4, d5, d6, d7, d8, d9, d10, d11, d12⟩ := SRow.box HX.out
          have p0 := HP.out.cell 0
          have p1 := HP.out.cell 1
          go_wp2_with fail
          refine (sellOf1_any x a (P.setC (P.who m g lv f t) k) none 0 w _ HWB.out hB HS.out HE.out (SlAt.nilOf _)).mono ?_
          rintro e w2 ⟨r, y, a1, rfl, hS1, hT1, hb1⟩
          have hb2 := bvia hb1 (sail_below w2 y a1)
          have HX2 : Aside (SRow (W.sail w2 y a1) w.heap.size x a) := HX.out.below hb2
          have HP2 : Aside (RowIs (W.sail w2 y a1) (w.heap.size + 1) #[.int .i64 f, .int .i64 t]) := HP.out.below hb2
          have HO2 : Aside (OwnJ (W.sail w2 y a1) (w.heap.size + 1 + 1) _ l) := OwnC.below HO.out hb2
          have hB2 := bvia hB hb2
          have HS1 : Aside (P.Sells 1 x (P.setC (P.who m g lv f t) k) r y) := hS1
          have hl16 : l.length ≤ 1000 := by have := HOF.out.len; omega
          have hz2 : w.heap.size + 1 + 1 ≤ (W.sail w2 y a1).heap.size := HP2.out.lt
          clear d0 d1 d2 d3 d4 d5 d6 d7 d8 d9 d10 d11 d12 p0 p1 hS1 hT1 hb1 HX HP HO hB
          cases hr : (r == 0)
          · have HOF2 : Aside (OffIs x (P.who m g lv f t) (k + 1) l) := HOF.out.miss HS1.out (by simpa using hr)
            clear HOF
            go_wp2
            go_roundg (x.s.bs.length - (k + 1))
            case measure => omega
            case rel => exact ⟨k + 1, l, by omega, rfl, by go_num, HO2, HOF2, HX2, HP2, hB2⟩
          · obtain rfl : r = 0 := by simpa using hr
            have HOF2 : Aside (OffIs x (P.who m g lv f t) (k + 1) (l ++ [(k : Int)])) := HOF.out.hit HS1.out
            clear HOF
            go_wp2_with (at_builtin; refine wpList_app_int rfl _ _ (by rfl) (w.heap.size + 1 + 1) _ l (k : Int) (by rfl) HO2.out (w2.heap.size + 1) (by simp) (by rfl) hz2 (by omega) ?_; intro v3 w3 own3 gr3)
            have hX3 : SRow w3 w.heap.size x a := HX2.out.gr gr3 (fun e => by have := (HO2.out.lt _ e.symm).1; omega)
            have hP3 : RowIs w3 (w.heap.size + 1) #[.int .i64 f, .int .i64 t] := HP2.out.gr gr3 (fun e => by have := (HO2.out.lt _ e.symm).1; omega)
            have hB3 : Below w.heap.size w w3 := hB2.grown gr3 hB2.size (fun j hj => by have := (HO2.out.lt _ hj).1; omega)
            clear HO2
            go_wp2
            go_roundg (x.s.bs.length - (k + 1))
            case measure => omega
            case rel => exact ⟨k + 1, l ++ [(k : Int)], by omega, rfl, by go_num, own3, HOF2, hX3, hP3, hB3⟩
        · obtain rfl : k = x.s.bs.length := by omega
          have d3 := HX.out.cell 3
          go_wp2
          go_ret
          exact ⟨m, _, l, rfl, HL.out, OwnC.ahead HO.out (by omega), HOF.out, hB⟩

end Go.Proofs.YtpjfpgimpgmhcadGreat.St
namespace Go.Proofs.YtpjfpgimpgmhcadGreat.St
open Go.RowKit Bk
set_option linter.unusedVariables false

theorem withOwn : WithOwn := fun x a lv b fo fc w h1 h2 h3 h4 => withBooking_own x a lv b fo fc w h1 h2 h3 h4
theorem sellOf1_ok (x : Sail) (a : SailA) (b : Bkg) (fo : Option Addr) (fc : Nat) (w0 w : World) (hb00 : Below w0.heap.size w0 w) (hs0 : SailAt w0 x a) (hE : P.SailE x 0) (hf : Fo.EntsAt w fo fc b.fol) :
    Calls Tryz.prog 30 #[V.sail x a, V.bk b fo fc, .int .i64 1] w fun e w' => ∃ r y a', e = .returned (.tuple #[V.sail y a', .int .i64 r]) ∧ P.Sells 1 x b r y ∧ SailTw w0.heap.size w.heap.size w' y a' ∧ Below w.heap.size w w' := sellOf1_any x a b fo fc w0 w withOwn hb00 hs0 hE hf
theorem sellOf2_ok (x : Sail) (a : SailA) (b : Bkg) (fo : Option Addr) (fc : Nat) (w0 w : World) (hb00 : Below w0.heap.size w0 w) (hs0 : SailAt w0 x a) (hE : P.SailE x 0) (hf : Fo.EntsAt w fo fc b.fol) :
    Calls Tryz.prog 30 #[V.sail x a, V.bk b fo fc, .int .i64 2] w fun e w' => ∃ r y a', e = .returned (.tuple #[V.sail y a', .int .i64 r]) ∧ P.Sells 2 x b r y ∧ SailTw w0.heap.size w.heap.size w' y a' ∧ Below w.heap.size w w' := sellOf2_any x a b fo fc w0 w withOwn hb00 hs0 hE hf
theorem offersOf_ok (x : Sail) (a : SailA) (g : Int) (lv : Bool) (f t : Int) (w : World) (hs : SailAt w x a) (hE : P.SailE x 0) :
    Calls Tryz.prog 32 #[V.sail x a, .int .i64 g, .bool lv, .agg #[.int .i64 f, .int .i64 t]] w fun e w' => ∃ n v l, e = .returned v ∧ LeastIs x.bks n ∧ OwnJ w' w.heap.size v l ∧ OffIs x (P.who n g lv f t) x.s.bs.length l ∧ Below w.heap.size w w' := offersOf_any withOwn x a g lv f t w hs hE

end Go.Proofs.YtpjfpgimpgmhcadGreat.St
