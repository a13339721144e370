/- othersStay. -/
import Derived.Test.YtlamhfbdeinkkaeGreatSeLr
import Derived.Test.YtlamhfbdeinkkaeGreatStAr
import Derived.Test.YtlamhfbdeinkkaeGreatAnAr
import Derived.Test.YtlamhfbdeinkkaeGreatStRr
import Derived.Test.YtlamhfbdeinkkaeGreatStQr
namespace Go.Proofs.YtlamhfbdeinkkaeGreat.St
open Go.RowKit Bk
set_option linter.unusedSimpArgs false
set_option linter.unusedVariables false
set_option maxRecDepth 10000

/-- Where a number stands. -/
theorem bat_at {l : List Bkg} {id : Int} (i : Nat) (h : ∃ b ∈ l, b.id = id) : ∃ k : Nat, P.bat id i l = ((i + k : Nat) : Int) ∧ k < l.length ∧ ∃ b, l[k]? = some b ∧ b.id = id := by
  induction l generalizing i with
  | nil => obtain ⟨b, hb, _⟩ := h; simp at hb
  | cons y t ih =>
    by_cases hy : y.id = id
    · exact ⟨0, by rw [P.bat, if_pos hy]; simp, by simp, y, rfl, hy⟩
    · obtain ⟨b, hb, hid⟩ := h
      rcases List.mem_cons.1 hb with rfl | hb
      · exact absurd hid hy
      · obtain ⟨k, h1, h2, c, h3, h4⟩ := ih (i + 1) ⟨b, hb, hid⟩
        refine ⟨k + 1, ?_, by simp; omega, c, by simpa using h3, h4⟩
        rw [P.bat, if_neg hy, h1]
        congr 1
        omega
theorem id_one {l : List Bkg} (hr : l.Pairwise (fun a b => a.id < b.id)) {a b : Bkg} (ha : a ∈ l) (hb : b ∈ l) (e : a.id = b.id) : a = b := by
  induction l with
  | nil => simp at ha
  | cons y t ih =>
    obtain ⟨h1, h2⟩ := List.pairwise_cons.1 hr
    rcases List.mem_cons.1 ha with p1 | p1 <;> rcases List.mem_cons.1 hb with p2 | p2
    · rw [p1, p2]
    · have := h1 b p2; rw [p1] at e; omega
    · have := h1 a p1; rw [p2] at e; omega
    · exact ih h2 p1 p2
/-- Where a booking stands. -/
theorem bat_mem {l : List Bkg} {b : Bkg} (hr : l.Pairwise (fun a b => a.id < b.id)) (hb : b ∈ l) : ∃ k : Nat, P.bat b.id 0 l = (k : Int) ∧ k < l.length ∧ l[k]? = some b := by
  obtain ⟨k, h1, h2, c, h3, h4⟩ := bat_at 0 ⟨b, hb, rfl⟩
  refine ⟨k, by simpa using h1, h2, ?_⟩
  rw [h3, id_one hr (List.mem_of_getElem? h3) hb h4]
set_option maxHeartbeats 16000000 in
theorem othersStay_any (x : Sail) (B2 : List Bkg) (a a' : SailA) (id : Int) (w : World) (hs : SailAt w x a) (ht : SailAt w ⟨x.s, x.L, x.al, x.th, x.B, x.dn, x.day, x.lvs, B2, x.cl⟩ a') (hm : ∀ b ∈ x.bks, b.id ≠ id → b ∈ B2) (hr : B2.Pairwise (fun a b => a.id < b.id)) (h16 : x.bks.length ≤ 16) (h162 : B2.length ≤ 16) :
    Calls Tryz.prog 15 #[V.sail x a, V.sail ⟨x.s, x.L, x.al, x.th, x.B, x.dn, x.day, x.lvs, B2, x.cl⟩ a', .int .i64 id] w fun e w' => e = .returned (.bool true) ∧ Below w.heap.size w w' := by
  have hle := hs.bks.le
  have hmx := hs.bks.max
  have hle2 := ht.bks.le
  have hmx2 := ht.bks.max
  unfold maxLen at hmx hmx2
  have HS : Aside (SailAt w x a) := hs
  have HT : Aside (SailAt w ⟨x.s, x.L, x.al, x.th, x.B, x.dn, x.day, x.lvs, B2, x.cl⟩ a') := ht
  have HM : Aside (∀ b ∈ x.bks, b.id ≠ id → b ∈ B2) := hm
  have HR : Aside (B2.Pairwise (fun a b => a.id < b.id)) := hr
  have hb0 : Below w.heap.size w (W.sail (W.sail w x a) ⟨x.s, x.L, x.al, x.th, x.B, x.dn, x.day, x.lvs, B2, x.cl⟩ a') := bvia (sail_below w x a) (sail_below _ _ a')
  have HX0 : Aside (SRow (W.sail (W.sail w x a) ⟨x.s, x.L, x.al, x.th, x.B, x.dn, x.day, x.lvs, B2, x.cl⟩ a') w.heap.size x a) := (RowIs.new w _ _ : SRow (W.sail w x a) w.heap.size x a).below (sail_below _ _ a')
  have HY0 : Aside (SRow (W.sail (W.sail w x a) ⟨x.s, x.L, x.al, x.th, x.B, x.dn, x.day, x.lvs, B2, x.cl⟩ a') (w.heap.size + 1) ⟨x.s, x.L, x.al, x.th, x.B, x.dn, x.day, x.lvs, B2, x.cl⟩ a') := by
    have := RowIs.new (W.sail w x a) (C.sail ⟨x.s, x.L, x.al, x.th, x.B, x.dn, x.day, x.lvs, B2, x.cl⟩ a') 32
    rwa [World.size_alloc] at this
  clear hs ht hm hr
  go_enter Tryz.func15, Tryz.ntmps15
  go_wp2
  go_loopg [7] x.bks.length (fun g i wr => ∃ k : Nat, k ≤ x.bks.length ∧ g = x.bks.length - k ∧ i = .int .i64 k ∧ Aside (SRow wr w.heap.size x a) ∧ Aside (SRow wr (w.heap.size + 1) ⟨x.s, x.L, x.al, x.th, x.B, x.dn, x.day, x.lvs, B2, x.cl⟩ a') ∧ Below w.heap.size w wr)
  case atStart => exact ⟨0, Nat.zero_le _, rfl, rfl, HX0, HY0, hb0⟩
  case round =>
    clear HX0 HY0 hb0
    obtain ⟨k, hk, rfl, rfl, HX, HY, hB⟩ := hrel
    by_cases hlt : k < x.bks.length
    · obtain ⟨b1, o1, y, fo, fc, hao, hbw, hd, ⟨y0, y1, y2, y3, y4, y5, y6, y7, y8, y9, y10⟩, hfy⟩ := BksAt.get HS.out.bks hB k hlt
      have HYM : Aside (y ∈ x.bks) := List.mem_of_mem_drop (i := k) (by rw [hd]; exact List.mem_cons.2 (.inl rfl))
      have hkl : (k : Int) < x.bks.length := by omega
      have d11 : wr.cell? ⟨w.heap.size, 11, none⟩ = some (.slice a.ao x.bks.length a.cap) := HX.out.cell 11
      rw [hao] at d11
      have hbr : b1 < wr.heap.size := Nat.lt_of_lt_of_le hbw hB.size
      have hx1 : w.heap.size < wr.heap.size := HX.out.lt
      have hx2 : w.heap.size + 1 < wr.heap.size := HY.out.lt
      have HFY : Aside (Fo.EntsAt wr fo fc y.fol) := hfy
      have hba := bk_below wr y fo fc
      have HX1 : Aside (SRow (W.bk wr y fo fc) w.heap.size x a) := HX.out.below hba
      have HY1 : Aside (SRow (W.bk wr y fo fc) (w.heap.size + 1) ⟨x.s, x.L, x.al, x.th, x.B, x.dn, x.day, x.lvs, B2, x.cl⟩ a') := HY.out.below hba
      have HZ1 : Aside (RowIs (W.bk wr y fo fc) wr.heap.size (C.bk y fo fc)) := RowIs.new wr _ _
      have hB1 := bvia hB hba
      obtain ⟨e0, e1, e2, e3, e4, e5, e6, e7, e8, e9, e10, e11, e12⟩ := SRow.box HY.out
      clear hao hbw hd hfy
      go_wp2_with fail
      refine (bookingAt_any _ a' y.id _ (HT.out.below hB1)).mono ?_
      rintro e w2 ⟨rfl, hb2⟩
      have hb12 := bvia hba hb2
      have hB2 := bvia hB hb12
      have HX2 : Aside (SRow w2 w.heap.size x a) := HX1.out.below hb2
      have HY2 : Aside (SRow w2 (w.heap.size + 1) ⟨x.s, x.L, x.al, x.th, x.B, x.dn, x.day, x.lvs, B2, x.cl⟩ a') := HY1.out.below hb2
      have HZ2 : Aside (RowIs w2 wr.heap.size (C.bk y fo fc)) := HZ1.out.below hb2
      have HF2 : Aside (Fo.EntsAt w2 fo fc y.fol) := SlAt.below Fo.REnt.mono HFY.out hb12
      clear e0 e1 e2 e3 e4 e5 e6 e7 e8 e9 e10 e11 e12 y0 y1 y2 y3 y4 y5 y6 y7 y8 y9 y10 d11 HX1 HY1 HZ1 hb2 hb12 HFY hba hB1 hB
      by_cases hid : y.id = id
      · have hid2 : (y.id != id) = false := by simpa using hid
        have f0 : w2.cell? ⟨wr.heap.size, 0, none⟩ = some (.int .i64 y.id) := HZ2.out.cell 0
        clear hid
        go_wp2
        go_quiet (fail)
        go_wp2
        go_roundg (x.bks.length - (k + 1))
        case measure => omega
        case rel => exact ⟨k + 1, by omega, rfl, by go_num, HX2.out.below (below_drewN (Below.refl _ _) _), HY2.out.below (below_drewN (Below.refl _ _) _), below_drewN hB2 _⟩
      · obtain ⟨kk, hbat, hkl2, hget⟩ := bat_mem HR.out (HM.out y HYM.out hid)
        have hid2 : (y.id != id) = true := by simpa using hid
        rw [hbat]
        obtain ⟨b2, o2, y2, fo2, fc2, hao2, hbw2, hd2, ⟨z0, z1, z2, z3, z4, z5, z6, z7, z8, z9, z10⟩, hfy2⟩ := BksAt.get HT.out.bks hB2 kk hkl2
        have hyy : y2 = y := by
          have h0 : B2[kk]? = some y2 := by
            have := congrArg (fun l => l[0]?) hd2
            simpa using this
          rw [hget] at h0
          exact (Option.some.inj h0).symm
        subst hyy
        have e11 : w2.cell? ⟨w.heap.size + 1, 11, none⟩ = some (.slice a'.ao B2.length a'.cap) := HY2.out.cell 11
        rw [hao2] at e11
        obtain ⟨f0, f1, f2, f3, f4, f5, f6, f7, f8, f9, f10⟩ := HZ2.out.bbox
        have hk0 : decide ((kk : Int) < 0) = false := by simp
        have hkl3 : (kk : Int) < B2.length := by omega
        have HK : Aside (∀ W : World, Below w2.heap.size w2 W → Calls Tryz.prog 16 #[V.bk y2 fo2 fc2, V.bk y2 fo fc] W fun e w' => e = .returned (.bool true) ∧ Below W.heap.size W w') := fun W hW => sameBooking_eq y2 fo2 fo fc2 fc W (SlAt.below Fo.REnt.mono hfy2 hW) (SlAt.below Fo.REnt.mono HF2.out hW)
        have r2 := cell_regrown e11
        have ra0 := cell_regrown z0
        have rb0 := cell_regrown f0
        have ra1 := cell_regrown z1
        have rb1 := cell_regrown f1
        have ra2 := cell_regrown z2
        have rb2 := cell_regrown f2
        have ra3 := cell_regrown z3
        have rb3 := cell_regrown f3
        have ra4 := cell_regrown z4
        have rb4 := cell_regrown f4
        have ra5 := cell_regrown z5
        have rb5 := cell_regrown f5
        have ra6 := cell_regrown z6
        have rb6 := cell_regrown f6
        have ra7 := cell_regrown z7
        have rb7 := cell_regrown f7
        have ra8 := cell_regrown z8
        have rb8 := cell_regrown f8
        have ra9 := cell_regrown z9
        have rb9 := cell_regrown f9
        have ra10 := cell_regrown z10
        have rb10 := cell_regrown f10
        clear hfy2 hid hbat hget hd2 hao2 hbw2
        go_wp2
        clear e11 z0 z1 z2 z3 z4 z5 z6 z7 z8 z9 z10 f0 f1 f2 f3 f4 f5 f6 f7 f8 f9 f10
        refine wp_region_quiet_below (by kernel_rfl) (by kernel_rfl) (Qt.out ?_)
        repeat (refine Qt.step (fun K hK => ?_); go_simp; first | (refine hK _ ?_; clear hK K) | (apply Exists.intro; refine ⟨fun _ => ?_, hK _ ?_⟩; (go_at_call 16; exact Calls.regrown_of (v := .bool true) (HK.out _ (below_regrown _ _ _))); clear hK K))
        refine Qt.fin ?_
        intro w3 hw3
        obtain ⟨⟨dq, osq⟩, hw3⟩ := hw3
        have hb3 := below_regrown w2 dq osq
        rw [← hw3] at hb3
        clear hw3 r2 ra0 rb0 ra1 rb1 ra2 rb2 ra3 rb3 ra4 rb4 ra5 rb5 ra6 rb6 ra7 rb7 ra8 rb8 ra9 rb9 ra10 rb10
        go_wp2
        go_roundg (x.bks.length - (k + 1))
        case measure => omega
        case rel => exact ⟨k + 1, by omega, rfl, by go_num, HX2.out.below hb3, HY2.out.below hb3, bvia hB2 hb3⟩
    · have : k = x.bks.length := by omega
      subst this
      obtain ⟨d0, d1, d2, d3, d4, d5, d6, d7, d8, d9, d10, d11, d12⟩ := SRow.box HX.out
      obtain ⟨e0, e1, e2, e3, e4, e5, e6, e7, e8, e9, e10, e11, e12⟩ := SRow.box HY.out
      go_wp2_with fail
      refine (sameShip_eq x.s.legs x.s.souls a.v.cao a.v.bao a'.v.cao a'.v.bao a.v.cc a.v.bc a'.v.cc a'.v.bc x.s.cs x.s.bs _ (HS.out.below hB).ship (HT.out.below hB).ship).mono ?_
      rintro r w1 ⟨rfl, hb1⟩
      have hB1 := bvia hB hb1
      have HX1 : Aside (SRow w1 w.heap.size x a) := HX.out.below hb1
      have HY1 : Aside (SRow w1 (w.heap.size + 1) ⟨x.s, x.L, x.al, x.th, x.B, x.dn, x.day, x.lvs, B2, x.cl⟩ a') := HY.out.below hb1
      clear d0 d1 d2 d3 d4 d5 d6 d7 d8 d9 d10 d11 d12 e0 e1 e2 e3 e4 e5 e6 e7 e8 e9 e10 e11 e12 HX HY hB hb1
      obtain ⟨d0, d1, d2, d3, d4, d5, d6, d7, d8, d9, d10, d11, d12⟩ := SRow.box HX1.out
      obtain ⟨e0, e1, e2, e3, e4, e5, e6, e7, e8, e9, e10, e11, e12⟩ := SRow.box HY1.out
      go_wp2_with fail
      refine (sameFares_eq a.lo a.bo a'.lo a'.bo a.lc a.bc a'.lc a'.bc x.L x.al x.th x.B x.dn _ (HS.out.below hB1).fare (HT.out.below hB1).fare).mono ?_
      rintro r w2 ⟨rfl, hb2⟩
      have hB2 := bvia hB1 hb2
      have HX2 : Aside (SRow w2 w.heap.size x a) := HX1.out.below hb2
      have HY2 : Aside (SRow w2 (w.heap.size + 1) ⟨x.s, x.L, x.al, x.th, x.B, x.dn, x.day, x.lvs, B2, x.cl⟩ a') := HY1.out.below hb2
      clear d0 d1 d2 d3 d4 d5 d6 d7 d8 d9 d10 d11 d12 e0 e1 e2 e3 e4 e5 e6 e7 e8 e9 e10 e11 e12 HX1 HY1 hB1 hb2
      obtain ⟨d0, d1, d2, d3, d4, d5, d6, d7, d8, d9, d10, d11, d12⟩ := SRow.box HX2.out
      obtain ⟨e0, e1, e2, e3, e4, e5, e6, e7, e8, e9, e10, e11, e12⟩ := SRow.box HY2.out
      go_wp2
      go_ret
      exact ⟨rfl, hB2⟩

theorem stays_any (x y : Sail) (a a' : SailA) (id : Int) (w : World) (hs : SailAt w x a) (ht : SailAt w y a') {z : Bkg} (hy : y = P.withB x z) (hm : ∀ b ∈ x.bks, b.id ≠ id → b ∈ y.bks) (hr : y.bks.Pairwise (fun a b => a.id < b.id)) (h16 : x.bks.length ≤ 16) (h162 : y.bks.length ≤ 16) :
    Calls Tryz.prog 15 #[V.sail x a, V.sail y a', .int .i64 id] w fun e w' => e = .returned (.bool true) ∧ Below w.heap.size w w' := by
  subst hy
  exact othersStay_any x (P.insB z x.bks) a a' id w hs ht hm hr h16 h162

end Go.Proofs.YtlamhfbdeinkkaeGreat.St
