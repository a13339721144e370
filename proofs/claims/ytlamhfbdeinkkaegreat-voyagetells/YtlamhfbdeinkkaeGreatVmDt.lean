/- Package voyage: slices.DeleteFunc of edges; only; canMatch. -/
import Derived.Test.YtlamhfbdeinkkaeGreatVyBt
import Derived.Test.YtlamhfbdeinkkaeGreatTwAt
namespace Go.Proofs.YtlamhfbdeinkkaeGreat.St
open Go.RowKit Bk
set_option linter.unusedSimpArgs false
set_option linter.unusedVariables false
set_option maxRecDepth 10000

theorem filt_snoc {α : Type} {l : List α} {k : Nat} {x : α} (p : α → Bool) (h : l.take (k + 1) = l.take k ++ [x]) : (l.take (k + 1)).filter p = (l.take k).filter p ++ (if p x = true then [x] else []) := by
  rw [h, List.filter_append]
  congr 1
  cases hp : p x <;> simp [List.filter_cons, hp]
/-- Where DeleteFunc stands: i edges are kept of the first j. -/
structure DelSt (w : World) (g cap base : Nat) (l : List (Int × Int)) (p : Int × Int → Bool) (i j : Nat) (wr : World) : Prop where
  own : ∃ cur, OwnG wr base (.slice (some ⟨g, 0, none⟩) l.length cap) cur ∧ cur.length = l.length ∧ cur.take i = (l.take j).filter (fun z => !p z) ∧ cur.drop j = l.drop j
  sp : Spare w.heap.size g w wr
theorem DelSt.below {w wr wr' : World} {g cap base i j : Nat} {l : List (Int × Int)} {p : Int × Int → Bool} (h : DelSt w g cap base l p i j wr) (hb : Below wr.heap.size wr wr') : DelSt w g cap base l p i j wr' := by
  obtain ⟨cur, h1, h2, h3, h4⟩ := h.own
  exact ⟨⟨cur, OwnC.below h1 hb, h2, h3, h4⟩, h.sp.trans (Spare.ofBelow (hb.mono h.sp.size))⟩

set_option maxHeartbeats 4000000 in
theorem delF_own (g cap base : Nat) (l : List (Int × Int)) (F : Nat) (cs : Array Value) (p : Int × Int → Bool) (w : World) (hO : OwnG w base (.slice (some ⟨g, 0, none⟩) l.length cap) l) (hn : l.length ≤ 1000000)
    (hcf : ∀ (args : Array Value) (wx : World), (callFunc F args).run Tryz.prog wx = .ok (.enter F args) wx)
    (hp : Hid (∀ (x : Int × Int) (wx : World), Spare w.heap.size g w wx → Calls Tryz.prog F (#[V.edg x] ++ cs) wx fun e w' => e = .returned (.bool (p x)) ∧ Below wx.heap.size wx w')) :
    Calls Tryz.prog 235 #[.slice (some ⟨g, 0, none⟩) l.length cap, .func (.func F) #[] cs] w fun e w' => e = .returned (.slice (some ⟨g, 0, none⟩) (l.filter fun z => !p z).length cap) ∧ OwnG w' base (.slice (some ⟨g, 0, none⟩) (l.filter fun z => !p z).length cap) (l.filter fun z => !p z) ∧ Spare w.heap.size g w w' := by
  have HO : Aside (OwnG w base (.slice (some ⟨g, 0, none⟩) l.length cap) l) := hO
  have HIX := gIdx_any (some ⟨g, 0, none⟩) cap l F cs p w (own_at cellsG_len hO) hcf (fun x wx hw => hp.out x wx (Spare.ofBelow hw))
  have HCAP : Aside (l.length ≤ cap ∧ cap ≤ maxLen) := by
    obtain ⟨_, _, _, h3, _, h5, _⟩ := ownC_row hO
    exact ⟨h3, h5⟩
  clear hO
  go_enter Tryz.func235, Tryz.ntmps235
  go_wp2_with fail
  refine HIX.mono ?_
  rintro e w1 ⟨n, rfl, hnk, hb1⟩
  have HB1 : Aside (Below w.heap.size w w1) := hb1
  clear HIX hb1
  rcases hnk with ⟨k, b, rfl, hk1, hk2, hk3⟩ | ⟨rfl, hall⟩
  rotate_left
  · have hf : (l.filter fun z => !p z) = l := List.filter_eq_self.2 (fun z hz => by rw [hall z hz]; rfl)
    have HF : Aside ((l.filter fun z => !p z) = l) := hf
    clear hf hall
    go_wp2
    go_ret
    rw [HF.out]
    exact ⟨rfl, OwnC.below HO.out HB1.out, Spare.ofBelow HB1.out⟩
  obtain ⟨hkl, hkb⟩ := List.getElem?_eq_some_iff.1 hk1
  have hkm : (-1 : Int) ≠ (k : Int) := by omega
  have HST : Aside (DelSt w g cap base l p k (k + 1) w1) := by
    have ht : (l.take (k + 1)) = l.take k ++ [b] := by rw [List.take_succ_eq_append_getElem hkl, hkb]
    have hf : (l.take k).filter (fun z => !p z) = l.take k := List.filter_eq_self.2 (fun z hz => by rw [hk3 z hz]; rfl)
    exact ⟨⟨l, OwnC.below HO.out HB1.out, rfl, by rw [filt_snoc _ ht, hf, hk2]; simp, rfl⟩, Spare.ofBelow HB1.out⟩
  clear hk1 hk2 hk3 hkb HO
  go_wp2
  go_loopg [5, 6] (l.length - (k + 1)) (fun q iv jv wr => ∃ (i j : Nat), i < j ∧ j ≤ l.length ∧ q = l.length - j ∧ iv = .int .i64 i ∧ jv = .int .i64 j ∧ Aside (DelSt w g cap base l p i j wr))
  case atStart => exact ⟨k, k + 1, by omega, by omega, rfl, rfl, by go_num, HST⟩
  case round =>
    clear HST
    obtain ⟨i, j, hij, hj, rfl, rfl, rfl, HST⟩ := hrel
    by_cases hlt : j < l.length
    rotate_left
    · obtain rfl : j = l.length := by omega
      have hil : (i : Int) < l.length := by omega
      have hfin : ∃ cs' : List Value, (∀ ty, (Builtin.clear_ #[65] ty #[.slice (some ⟨g, i * 2, none⟩) (l.length - i) (cap - i)]).run Tryz.prog wr = .ok (.tuple #[]) (wr.setCells g (i * 2) cs')) ∧ OwnG (wr.setCells g (i * 2) cs') base (.slice (some ⟨g, 0, none⟩) i cap) (l.filter fun z => !p z) ∧ i = (l.filter fun z => !p z).length ∧ Spare w.heap.size g w (wr.setCells g (i * 2) cs') := by
        obtain ⟨cur, o1, o2, o3, o4⟩ := HST.out.own
        rw [List.take_length] at o3
        obtain ⟨arr, hh, hsz, hnc, hgb, hcm, htk, _⟩ := ownC_row o1
        obtain ⟨cs', c1, c2, c3⟩ := run_clear_edges wr 0 g (i * 2) (l.length - i) (cap - i) (by omega) (fun t ht => by
          rw [cell_of_row wr g (i * 2 + t) arr _ (0, 0) hh, Array.getElem?_eq_getElem (by omega)]
          rfl) (fun t ht => by simp [World.frozen?, hh])
        obtain ⟨p1, p2⟩ := own_cut o1 (i := i) (by omega) c1 c2
        rw [o3] at p1
        have hlen : i = (l.filter fun z => !p z).length := by
          rw [← o3, List.length_take, o2]
          omega
        exact ⟨cs', fun ty => c3, p1, hlen, HST.out.sp.trans (Spare.gr p2 HST.out.sp.size (.inl rfl))⟩
      obtain ⟨cs', hcl, f1, f2, f3⟩ := hfin
      have H1 : Aside (OwnG (wr.setCells g (i * 2) cs') base (.slice (some ⟨g, 0, none⟩) i cap) (l.filter fun z => !p z)) := f1
      have H2 : Aside (i = (l.filter fun z => !p z).length) := f2
      have H3 : Aside (Spare w.heap.size g w (wr.setCells g (i * 2) cs')) := f3
      have hci : (i : Int) ≤ cap := by have := HCAP.out.1; omega
      have hic : i ≤ cap := by omega
      clear f1 f2 f3
      have hcapi : i < cap := by have := HCAP.out.1; omega
      go_wp2
      all_goals first
        | (exfalso; omega)
        | (go_ret; rw [← H2.out]; exact ⟨rfl, H1.out, H3.out⟩)
    · have hlt2 : (j : Int) < l.length := by omega
      have hil : (i : Int) < l.length := by omega
      obtain ⟨cur, o1, o2, o3, o4⟩ := HST.out.own
      obtain ⟨b2, off, x, hao, _, hd, y0, y1⟩ := GAt.get (own_at cellsG_len o1) (Below.refl _ _) j (by omega)
      simp only [Option.some.injEq, Addr.mk.injEq, and_true] at hao
      obtain ⟨rfl, rfl⟩ := hao
      rw [Nat.zero_add] at y0 y1
      have hx : l[j]? = some x := drop_at (o4 ▸ hd)
      have HT : Aside (l.take (j + 1) = l.take j ++ [x]) := by
        obtain ⟨h1, h2⟩ := List.getElem?_eq_some_iff.1 hx
        show _ = _
        rw [List.take_succ_eq_append_getElem h1, h2]
      have HD4 : Aside (∀ c : List (Int × Int), c.drop j = l.drop j → c.drop (j + 1) = l.drop (j + 1)) := fun c hc => by
        have := congrArg (List.drop 1) hc
        simpa using this
      have hbx : Below wr.heap.size wr (wr.alloc (.cells #[.int .i64 x.1, .int .i64 x.2] 85)) := al _ _
      have HBX : Aside (RowIs (wr.alloc (.cells #[.int .i64 x.1, .int .i64 x.2] 85)) wr.heap.size #[.int .i64 x.1, .int .i64 x.2]) := RowIs.new wr _ _
      have HS1 : Aside (DelSt w g cap base l p i j (wr.alloc (.cells #[.int .i64 x.1, .int .i64 x.2] 85))) := HST.out.below hbx
      clear o1 o2 o3 o4 hd hx hbx
      cases hpx : p x
      · have HPX : Aside (p x = false) := hpx
        go_wp2_with fail
        refine (hp.out x _ HS1.out.sp).mono ?_
        rintro e w2 ⟨rfl, hb2⟩
        rw [hpx]
        have HS2 : Aside (DelSt w g cap base l p i j w2) := HS1.out.below hb2
        have hr2 := HBX.out.below hb2
        have k0 : w2.cell? ⟨wr.heap.size, 0, none⟩ = some (.int .i64 x.1) := hr2.cell 0
        have k1 : w2.cell? ⟨wr.heap.size, 1, none⟩ = some (.int .i64 x.2) := hr2.cell 1
        obtain ⟨cur, o1, o2, o3, o4⟩ := HS2.out.own
        have HO1 : Aside (OwnG w2 base (.slice (some ⟨g, 0, none⟩) l.length cap) cur) := o1
        have HO2 : Aside (cur.length = l.length) := o2
        have HO3 : Aside (cur.take i = (l.take j).filter (fun z => !p z)) := o3
        have HO4 : Aside (cur.drop j = l.drop j) := o4
        have hil' : i < l.length := by omega
        clear hb2 hr2 o1 o2 o3 o4 y0 y1 hpx
        go_wp2_with ((with_reducible refine wpList_stG g i l.length cap base cur x ?_ ?_ ?_ HO1.out HO2.out hil' ?_); exact Tryz.sizeEdg; rfl; rfl; intro w9 own9 gr9)
        have HS9 : Aside (DelSt w g cap base l p (i + 1) (j + 1) w9) := by
          refine ⟨⟨cur.set i x, own9, by rw [List.length_set]; exact HO2.out, ?_, ?_⟩, HS2.out.sp.trans (Spare.gr gr9 HS2.out.sp.size (.inl rfl))⟩
          · have hl := HO2.out
            have h1 : i < (cur.set i x).length := by rw [List.length_set]; omega
            rw [filt_snoc _ HT.out, HPX.out, List.take_succ_eq_append_getElem h1, List.take_set_of_le (Nat.le_refl _), HO3.out]
            simp
          · rw [List.drop_set_of_lt (by omega)]
            exact HD4.out _ HO4.out
        clear own9 gr9
        go_wp2
        go_roundg (l.length - (j + 1))
        case measure => omega
        case rel => exact ⟨i + 1, j + 1, by omega, by omega, rfl, by go_num, by go_num, HS9⟩
      · have HPX : Aside (p x = true) := hpx
        go_wp2_with fail
        refine (hp.out x _ HS1.out.sp).mono ?_
        rintro e w2 ⟨rfl, hb2⟩
        rw [hpx]
        have HS2 : Aside (DelSt w g cap base l p i (j + 1) w2) := by
          have h := HS1.out.below hb2
          obtain ⟨cur, o1, o2, o3, o4⟩ := h.own
          exact ⟨⟨cur, o1, o2, by rw [o3, filt_snoc _ HT.out, HPX.out]; simp, HD4.out _ o4⟩, h.sp⟩
        clear hb2 hpx
        go_wp2
        go_roundg (l.length - (j + 1))
        case measure => omega
        case rel => exact ⟨i, j + 1, by omega, by omega, rfl, by go_num, by go_num, HS2⟩

set_option maxHeartbeats 1000000 in
theorem cloneG_own (ao : Option Addr) (cap : Nat) (l : List (Int × Int)) (w : World) (hl : GAt w ao cap l) (h0 : 0 < l.length) (hn : l.length ≤ 1000000) :
    Calls Tryz.prog 236 #[.slice ao l.length cap] w fun e w' => ∃ g cap', e = .returned (.slice (some ⟨g, 0, none⟩) l.length cap') ∧ OwnG w' w.heap.size (.slice (some ⟨g, 0, none⟩) l.length cap') l ∧ Below w.heap.size w w' := by
  have hle := hl.le
  have hmx := hl.max
  unfold maxLen at hmx
  obtain ⟨b0, o0, rfl, _, _⟩ := hl.cells h0
  have HL : Aside (GAt w (some ⟨b0, o0, none⟩) cap l) := hl
  have HE : Aside (OwnG (w.alloc (.cells #[] 85)) w.heap.size (.slice (some ⟨w.heap.size, 0, none⟩) 0 0) []) := OwnC.empty w w.heap.size (Nat.le_refl _)
  have HB : Aside (Below w.heap.size w (w.alloc (.cells #[] 85))) := al _ _
  have HL2 : Aside (GAt (w.alloc (.cells #[] 85)) (some ⟨b0, o0, none⟩) cap l) := SlAt.below (RC.mono _) hl (al _ _)
  clear hl
  have hnil : ∀ wx : World, (binOp .eql 65 (.slice (some ⟨b0, o0, none⟩) l.length cap) (.slice none 0 0)).run Tryz.prog wx = .ok (.bool false) wx := fun wx => Lib.run_eql_slice_nil wx 65 85 _ _ _ 0 0 Tryz.underlying65
  go_enter Tryz.func236, Tryz.ntmps236
  go_wp2_with (at_builtin; refine wpList_app_many Tryz.infoG Tryz.underlying65 rfl (by decide) cellsG_len cellsG_one (by decide) rfl _ _ (by rfl) w.heap.size (.slice (some ⟨w.heap.size, 0, none⟩) 0 0) [] _ cap l (by rfl) HE.out (by rfl) HL2.out (by simp) (by simp) hn ?_; intro v1 w1 own1 gr1; have HO1 : Aside (OwnG w1 w.heap.size v1 ([] ++ l)) := own1; have HG1 : Aside ((w.alloc (.cells #[] 85)).grownBy w1 (some w.heap.size)) := gr1; clear own1 gr1)
  go_ret
  have h1 := HO1.out
  rw [List.nil_append] at h1
  rcases h1.2 with ⟨h2, h3⟩ | ⟨g, cap', cur, hv, _⟩
  · omega
  · subst hv
    exact ⟨g, cap', rfl, h1, below_gr HB.out HB.out.size HG1.out (Nat.le_refl _)⟩

theorem only1_any (c : Nat) (x y : Int × Int) (w : World) (hc : RowIs w c #[.int .i64 x.1, .int .i64 x.2]) :
    Calls Tryz.prog 237 (#[V.edg y] ++ #[.pointer (some ⟨c, 0, none⟩)]) w fun e w' => e = .returned (.bool (P.gos x y)) ∧ Below w.heap.size w w' := by
  show Calls Tryz.prog 237 #[V.edg y, .pointer (some ⟨c, 0, none⟩)] w _
  have hcl := hc.lt
  have k0 : w.cell? ⟨c, 0, none⟩ = some (.int .i64 x.1) := hc.cell 0
  have k1 : w.cell? ⟨c, 1, none⟩ = some (.int .i64 x.2) := hc.cell 1
  cases h1 : (y.1 == x.1)
  · go_enter Tryz.func237, Tryz.ntmps237
    go_wp2
    go_ret
    exact ⟨ret_bool (by simp at h1; simp [P.gos, h1]), by go_grown⟩
  have h1' : y.1 = x.1 := by simpa using h1
  cases h2 : (y.2 == x.2)
  · have h2' : ¬ y.2 = x.2 := by simpa using h2
    go_enter Tryz.func237, Tryz.ntmps237
    go_wp2
    all_goals
      go_ret
      exact ⟨ret_bool (by simp_all [P.gos]), by go_grown⟩
  · have h2' : y.2 = x.2 := by simpa using h2
    go_enter Tryz.func237, Tryz.ntmps237
    go_wp2
    all_goals
      go_ret
      exact ⟨ret_bool (by simp_all [P.gos]), by go_grown⟩
theorem only1_calls : ∀ (args : Array Value) (wx : World), (callFunc 237 args).run Tryz.prog wx = .ok (.enter 237 args) wx := enters_of Tryz.func237 (by kernel_rfl) rfl

set_option maxHeartbeats 1000000 in
theorem only_any (ao : Option Addr) (cap : Nat) (l : List (Int × Int)) (x : Int × Int) (w : World) (hl : GAt w ao cap l) (h0 : 0 < l.length) (hn : l.length ≤ 1000000) :
    Calls Tryz.prog 189 #[.slice ao l.length cap, V.edg x] w fun e w' => ∃ g cap', e = .returned (.slice (some ⟨g, 0, none⟩) (P.only l x).length cap') ∧ OwnG w' w.heap.size (.slice (some ⟨g, 0, none⟩) (P.only l x).length cap') (P.only l x) ∧ Below w.heap.size w w' := by
  have hb := al w (.cells #[.int .i64 x.1, .int .i64 x.2] 85)
  have HQ : Aside (RowIs (w.alloc (.cells #[.int .i64 x.1, .int .i64 x.2] 85)) w.heap.size #[.int .i64 x.1, .int .i64 x.2]) := RowIs.new w _ _
  have HL : Aside (GAt (w.alloc (.cells #[.int .i64 x.1, .int .i64 x.2] 85)) ao cap l) := SlAt.below (RC.mono _) hl hb
  have HB : Aside (Below w.heap.size w (w.alloc (.cells #[.int .i64 x.1, .int .i64 x.2] 85))) := hb
  clear hl hb
  go_enter Tryz.func189, Tryz.ntmps189
  go_wp2_with fail
  refine (cloneG_own ao cap l _ HL.out h0 hn).mono ?_
  rintro e w1 ⟨g, cap', rfl, own1, hb1⟩
  have hg : w.heap.size < g ∧ g < w1.heap.size := by
    have := own1.lt g rfl
    simp at this
    omega
  have HO1 : Aside (OwnG w1 w.heap.size (.slice (some ⟨g, 0, none⟩) l.length cap') l) := OwnC.ahead own1 (by simp)
  have hq1 : RowIs w1 w.heap.size #[.int .i64 x.1, .int .i64 x.2] := HQ.out.below hb1
  have HB1 : Aside (Below w.heap.size w w1) := bvia HB.out hb1
  have HD : Aside (Calls Tryz.prog 235 #[.slice (some ⟨g, 0, none⟩) l.length cap', .func (.func 237) #[] #[.pointer (some ⟨w.heap.size, 0, none⟩)]] w1 _) :=
    delF_own g cap' w.heap.size l 237 #[.pointer (some ⟨w.heap.size, 0, none⟩)] (P.gos x) w1 HO1.out hn only1_calls (fun y wx hw => only1_any w.heap.size x y wx (hq1.spare hw (by omega) (by omega)))
  clear own1 hb1 hq1
  go_wp2_with fail
  refine HD.out.mono ?_
  rintro e w2 ⟨rfl, own2, hsp⟩
  have HO2 : Aside (OwnG w2 w.heap.size (.slice (some ⟨g, 0, none⟩) (P.only l x).length cap') (P.only l x)) := own2
  have HB2 : Aside (Below w.heap.size w w2) := HB1.out.trans (hsp.below (by omega) HB1.out.size)
  clear own2 hsp HD
  go_wp2
  go_ret
  exact ⟨g, cap', rfl, HO2.out, HB2.out⟩

set_option maxHeartbeats 1000000 in
theorem canMatch_any (ao : Option Addr) (cap : Nat) (l : List (Int × Int)) (n m : Nat) (w : World) (hl : GAt w ao cap l) (hg : Ma.P.graphE (n : Int) (m : Int) l = 0) (hb : ∀ z ∈ l, 0 ≤ z.1 ∧ z.1 < (n : Int)) :
    Calls Tryz.prog 190 #[.int .i64 n, .int .i64 m, .slice ao l.length cap] w fun e w' => ∃ b, e = .returned (.bool b) ∧ (b = true ↔ P.full n l) ∧ Below w.heap.size w w' := by
  have HL : Aside (GAt w ao cap l) := hl
  have HG : Aside (Ma.P.graphE (n : Int) (m : Int) l = 0) := hg
  have HBD : Aside (∀ z ∈ l, 0 ≤ z.1 ∧ z.1 < (n : Int)) := hb
  clear hl hg hb
  go_enter Tryz.func190, Tryz.ntmps190
  go_wp2_with fail
  refine (Ma.lack_any ao cap l n m _ HL.out).mono ?_
  rintro e w1 ⟨v, k, rfl, own1, hb1, _, hok⟩
  rw [HG.out]
  have hk := hok HG.out
  rw [Int.toNat_natCast] at hk
  obtain ⟨ao1, cap1, rfl, a1⟩ := Ma.OwnI.at own1
  have hle1 := a1.le
  have hmx1 := a1.max
  unfold maxLen at hmx1
  have HB1 : Aside (Below w.heap.size w w1) := hb1
  have HR : Aside ((k.length = 0 ↔ P.full n l)) := by
    constructor
    · intro h0
      rcases hk with ⟨_, hm⟩ | hm
      · obtain ⟨m, h1, h2⟩ := hm.1
        exact ⟨m, h1, h2⟩
      · obtain ⟨A, _, hA, _⟩ := hm.few
        omega
    · rintro ⟨m, h1, h2⟩
      rcases hk with ⟨rfl, _⟩ | hm
      · rfl
      · have := Ma.lacks_max HBD.out hm h1
        omega
  clear hk hok own1 a1 hb1
  generalize k.length = q at HR hle1 ⊢
  cases hq : ((q : Int) == 0)
  · have HN : Aside (¬ q = 0) := by show ¬ _; intro e; rw [e] at hq; simp at hq
    go_wp2
    go_ret
    exact ⟨false, rfl, ⟨fun h => by simp at h, fun h => absurd (HR.out.2 h) HN.out⟩, HB1.out⟩
  · have HN : Aside (q = 0) := by show _ = _; simpa using hq
    go_wp2
    go_ret
    exact ⟨true, rfl, ⟨fun _ => HR.out.1 HN.out, fun _ => rfl⟩, HB1.out⟩

end Go.Proofs.YtlamhfbdeinkkaeGreat.St
namespace Go.Proofs.YtlamhfbdeinkkaeGreat.St
open Go.RowKit Bk
set_option linter.unusedSimpArgs false
set_option linter.unusedVariables false
set_option maxRecDepth 10000

def P.pairs (n : Nat) (f : Nat → Int) : List (Int × Int) := (List.range n).map fun (i : Nat) => ((i : Int), f i)
theorem pairs_len (n : Nat) (f : Nat → Int) : (P.pairs n f).length = n := by simp [P.pairs]
theorem pairs_at {n i : Nat} (f : Nat → Int) (h : i < n) : (P.pairs n f)[i]? = some ((i : Int), f i) := by
  rw [P.pairs, List.getElem?_map, List.getElem?_range h]
  rfl
/-- Edges that lie there, whatever is written between. -/
def GTw (n N : Nat) (w : World) (ao : Option Addr) (cap : Nat) (l : List (Int × Int)) : Prop := ∀ U, Twixt n N w U → GAt U ao cap l
theorem GTw.at {n N : Nat} {w : World} {ao : Option Addr} {cap : Nat} {l : List (Int × Int)} (h : GTw n N w ao cap l) : GAt w ao cap l := h w (Twixt.refl _ _ _)
theorem GTw.below {n N : Nat} {w w' : World} {ao : Option Addr} {cap : Nat} {l : List (Int × Int)} (h : GTw n N w ao cap l) (hb : Below w.heap.size w w') (hn : n ≤ w.heap.size) : GTw n N w' ao cap l := fun U hU => h U ((Twixt.below hb hn).trans hU)
theorem GTw.own {n N : Nat} {w : World} {g cap k base : Nat} {l : List (Int × Int)} (h : OwnG w base (.slice (some ⟨g, 0, none⟩) k cap) l) (hN : N ≤ base) : GTw n N w (some ⟨g, 0, none⟩) cap l := fun U hU =>
  own_at cellsG_len (OwnC.up h ⟨hU.1.size, fun b h1 h2 => hU.2 b (by omega) h2⟩)
theorem SetInv.some {n k J : Nat} {E l : List (Int × Int)} {f : Nat → Int} (hE : ∀ z ∈ E, 0 ≤ z.1 ∧ z.1 < (n : Int)) (h : SetInv n E k J f l) (hn : 0 < n) : 0 < l.length := by
  obtain ⟨m, h1, h2⟩ := (full_cut hE h.Jn).2 h.ext
  rw [← h.l] at h1
  cases m with
  | nil => simp at h2; omega
  | cons z t => exact List.length_pos_of_mem (h1.1 z (by simp))
theorem SetInv.sub {n k J : Nat} {E l : List (Int × Int)} {f : Nat → Int} (h : SetInv n E k J f l) : l.Sublist E := by
  rw [h.l]
  exact List.filter_sublist

set_option maxHeartbeats 4000000 in
theorem settled_any (ao : Option Addr) (cap : Nat) (E : List (Int × Int)) (n m : Nat) (w0 w : World) (hb0 : Below w0.heap.size w0 w) (hs0 : GAt w0 ao cap E) (hE : ∀ z ∈ E, 0 ≤ z.1 ∧ z.1 < (n : Int) ∧ 0 ≤ z.2 ∧ z.2 < (m : Int)) (hnd : E.Nodup) (hsr : P.srt E) (hf : P.full n E) (hn16 : n ≤ 16) (hm16 : m ≤ 16) (hlen : E.length ≤ 1000000) :
    Calls Tryz.prog 141 #[.int .i64 n, .int .i64 m, .slice ao E.length cap] w fun e w' => ∃ ao' cap' f, e = .returned (.slice ao' n cap') ∧ P.Lex n E f n ∧ P.ext n E n f ∧ GTw w0.heap.size w.heap.size w' ao' cap' (P.pairs n f) ∧ Below w.heap.size w w' := by
  have hE1 : ∀ z ∈ E, 0 ≤ z.1 ∧ z.1 < (n : Int) := fun z hz => ⟨(hE z hz).1, (hE z hz).2.1⟩
  have HE : Aside (∀ z ∈ E, 0 ≤ z.1 ∧ z.1 < (n : Int) ∧ 0 ≤ z.2 ∧ z.2 < (m : Int)) := hE
  have HE1 : Aside (∀ z ∈ E, 0 ≤ z.1 ∧ z.1 < (n : Int)) := hE1
  have HND : Aside (E.Nodup) := hnd
  have HSR : Aside (P.srt E) := hsr
  have HS0 : Aside (GAt w0 ao cap E) := hs0
  have HB0 : Aside (Below w0.heap.size w0 w) := hb0
  have HSI : Aside (SetInv n E 0 0 (fun _ => 0) E) := SetInv.start hE1 hf
  have HW00 : Aside (w0.heap.size ≤ w.heap.size) := hb0.size
  have HG0 : Aside (GTw w0.heap.size w.heap.size w ao cap E) := fun U hU => SlAt.below (RC.mono _) hs0 (hb0.trans hU.1)
  have HBW : Aside (Below w.heap.size w w) := Below.refl _ _
  clear hE hE1 hnd hsr hs0 hb0 hf
  go_enter Tryz.func141, Tryz.ntmps141
  go_wp2
  go_loopg [7, 14] E.length (fun q lv iv wr => ∃ (k J : Nat) (f : Nat → Int) (l : List (Int × Int)) (a1 : Option Addr) (c1 : Nat), k ≤ E.length ∧ q = E.length - k ∧ lv = .slice a1 l.length c1 ∧ iv = .int .i64 k ∧ Aside (SetInv n E k J f l) ∧ Aside (GTw w0.heap.size w.heap.size wr a1 c1 l) ∧ Aside (Below w.heap.size w wr))
  case atStart => exact ⟨0, 0, _, E, ao, cap, Nat.zero_le _, rfl, rfl, rfl, HSI, HG0, HBW⟩
  case round =>
    clear HSI HG0 HBW
    obtain ⟨k, J, f, l, a1, c1, hk, rfl, rfl, rfl, HSI, HG, HBW⟩ := hrel
    by_cases hlt : k < E.length
    rotate_left
    · obtain rfl : k = E.length := by omega
      obtain ⟨h1, h2, h3⟩ := SetInv.fin HE1.out HSR.out HSI.out
      have H1 : Aside (P.Lex n E f n) := h1
      have H2 : Aside (P.ext n E n f) := h2
      have H3 : Aside (l = P.pairs n f) := h3
      have H4 : Aside (l.length = n) := by show _ = _; rw [h3]; simp
      clear h1 h2 h3
      go_wp2
      go_ret
      refine ⟨a1, c1, f, by rw [H4.out]; rfl, H1.out, H2.out, ?_, HBW.out⟩
      rw [← H3.out]
      exact HG.out
    have hlt2 : (k : Int) < E.length := by omega
    obtain ⟨b, off, x, hao, hbw, hd, y0, y1⟩ := GAt.get HS0.out (HB0.out.trans (HBW.out.mono HW00.out)) k hlt
    subst hao
    have hx : E[k]? = some x := drop_at hd
    have HX : Aside (E[k]? = some x) := hx
    have hxE : x ∈ E := List.mem_of_getElem? hx
    have hn0 : 0 < n := by have := HE.out x hxE; omega
    have hl0 : 0 < l.length := HSI.out.some HE1.out hn0
    have hln : l.length ≤ 1000000 := by have := HSI.out.sub.length_le; omega
    have HSUB : Aside (l.Sublist E) := HSI.out.sub
    have HSTP : Aside ((P.full n (P.only l x) → ∃ J' f', SetInv n E (k + 1) J' f' (P.only l x)) ∧ (¬ P.full n (P.only l x) → SetInv n E (k + 1) J f l)) := HSI.out.step HE1.out HSR.out hx
    have hbx := al wr (.cells #[.int .i64 x.1, .int .i64 x.2] 85)
    have HBX : Aside (RowIs (wr.alloc (.cells #[.int .i64 x.1, .int .i64 x.2] 85)) wr.heap.size #[.int .i64 x.1, .int .i64 x.2]) := RowIs.new wr _ _
    have HGX : Aside (GTw w0.heap.size w.heap.size (wr.alloc (.cells #[.int .i64 x.1, .int .i64 x.2] 85)) a1 c1 l) := HG.out.below hbx (by have := HBW.out.size; have := HW00.out; omega)
    have HBX2 : Aside (Below w.heap.size w (wr.alloc (.cells #[.int .i64 x.1, .int .i64 x.2] 85))) := bvia HBW.out hbx
    clear hd hx hxE hbx HG HBW
    go_wp2_with fail
    refine (only_any a1 c1 l x _ HGX.out.at hl0 hln).mono ?_
    rintro e w1 ⟨g, c2, rfl, own1, hb1⟩
    have HO1 : Aside (OwnG w1 w.heap.size (.slice (some ⟨g, 0, none⟩) (P.only l x).length c2) (P.only l x)) := OwnC.ahead own1 HBX2.out.size
    have HG1 : Aside (GTw w0.heap.size w.heap.size w1 a1 c1 l) := HGX.out.below hb1 (by have := HBX2.out.size; have := HW00.out; omega)
    have HB1 : Aside (Below w.heap.size w w1) := bvia HBX2.out hb1
    have HOS : Aside ((P.only l x).Sublist E) := (show (P.only l x).Sublist l from List.filter_sublist).trans HSUB.out
    have HGR : Aside (Ma.P.graphE (n : Int) (m : Int) (P.only l x) = 0) := graph_of ⟨by omega, by omega⟩ ⟨by omega, by omega⟩ (fun z hz => HE.out z (HOS.out.subset hz)) (HOS.out.nodup HND.out)
    clear own1 hb1 y0 y1 HGX HBX HBX2
    go_wp2_with fail
    refine (canMatch_any (some ⟨g, 0, none⟩) c2 (P.only l x) n m _ (own_at cellsG_len HO1.out) HGR.out (fun z hz => HE1.out z (HOS.out.subset hz))).mono ?_
    rintro e w2 ⟨b2, rfl, hb2, hbl2⟩
    have HG2 : Aside (GTw w0.heap.size w.heap.size w2 a1 c1 l) := HG1.out.below hbl2 (by have := HB1.out.size; have := HW00.out; omega)
    have HO2 : Aside (GTw w0.heap.size w.heap.size w2 (some ⟨g, 0, none⟩) c2 (P.only l x)) := GTw.own (OwnC.below HO1.out hbl2) (Nat.le_refl _)
    have HB2 : Aside (Below w.heap.size w w2) := bvia HB1.out hbl2
    clear hbl2 HG1 HO1 HB1
    cases b2
    · have HN : Aside (SetInv n E (k + 1) J f l) := HSTP.out.2 (fun h => by have := hb2.2 h; cases this)
      clear hb2
      go_wp2
      go_roundg (E.length - (k + 1))
      case measure => omega
      case rel => exact ⟨k + 1, J, f, l, a1, c1, by omega, rfl, rfl, by go_num, HN, HG2, HB2⟩
    · obtain ⟨J', f', hN⟩ := HSTP.out.1 (hb2.1 rfl)
      have HN : Aside (SetInv n E (k + 1) J' f' (P.only l x)) := hN
      clear hb2 hN
      go_wp2
      go_roundg (E.length - (k + 1))
      case measure => omega
      case rel => exact ⟨k + 1, J', f', P.only l x, some ⟨g, 0, none⟩, c2, by omega, rfl, rfl, by go_num, HN, HO2, HB2⟩

end Go.Proofs.YtlamhfbdeinkkaeGreat.St
