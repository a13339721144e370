/- Package anew: copied. -/
import Derived.Test.YtlamhfbdeinkkaeGreatAnBt
import Derived.Test.YtlamhfbdeinkkaeGreatStNt
namespace Go.Proofs.YtlamhfbdeinkkaeGreat.St
open Go.RowKit Bk
set_option linter.unusedSimpArgs false
set_option linter.unusedVariables false
set_option maxRecDepth 10000

/-- Blocks from N on are as they were. -/
def Up (N : Nat) (w w' : World) : Prop := w.heap.size ≤ w'.heap.size ∧ ∀ b, N ≤ b → b < w.heap.size → w'.heap[b]? = w.heap[b]?
theorem Up.trans {N : Nat} {a b c : World} (h : Up N a b) (k : Up N b c) : Up N a c :=
  ⟨Nat.le_trans h.1 k.1, fun i h0 hi => by rw [k.2 i h0 (Nat.lt_of_lt_of_le hi h.1), h.2 i h0 hi]⟩
theorem Up.below {N : Nat} {a b : World} (h : Below a.heap.size a b) : Up N a b := ⟨h.size, fun i _ hi => h.block i hi⟩
theorem Up.gr {N g : Nat} {a b : World} (h : a.grownBy b (some g)) (hg : g < N) : Up N a b := ⟨h.size, fun i h0 hi => h.block i hi (by simp; omega)⟩
theorem OwnC.up {α : Type} {cells : α → List Value} {size : Nat} {e : TypeId} {w w' : World} {base : Nat} {v : Value} {l : List α} (h : OwnC cells size e w base v l) (hb : Up base w w') : OwnC cells size e w' base v l := by
  refine ⟨h.1, ?_⟩
  rcases h.2 with h2 | ⟨g, cap, cur, hv, hg, hh, r⟩
  · exact Or.inl h2
  · refine Or.inr ⟨g, cap, cur, hv, hg, ?_, r⟩
    rw [hb.2 g hg (Array.getElem?_eq_some_iff.1 hh).1]
    exact hh
theorem Up.mono {N M : Nat} {a b : World} (h : Up N a b) (hM : N ≤ M) : Up M a b := ⟨h.1, fun i h0 hi => h.2 i (by omega) hi⟩

/-- Out of values with their addresses. -/
theorem cats_of {U : World} {ao : Option Addr} {cap : Nat} {kv : List CatV} {cs : List Sh.Cat} (h : SlAt (RC cellsK) 2 U ao cap kv) (hm : kv.map (·.1) = cs) (hs : ∀ y ∈ kv, IntsAt U y.2.1 y.2.2 y.1.2) (hz : ∀ c ∈ cs, c.1.size ≤ maxLen) : Sh.CatsAt U ao cap cs := by
  subst hm
  refine ⟨by simpa using h.le, h.max, h.nil, fun h0 => ?_⟩
  simp at h0
  obtain ⟨b, off, rfl, hlt, hc⟩ := h.cells h0
  refine ⟨b, off, rfl, hlt, fun i hi => ?_⟩
  simp at hi
  obtain ⟨cs, h1, h3, h4⟩ := hc i hi
  have h1 : cs = cellsK kv[i] := h1
  refine ⟨cs, ⟨kv[i].2.1, kv[i].2.2, by simpa [cellsK] using h1, by simpa using hs kv[i] (List.getElem_mem hi), hz _ (List.getElem_mem _)⟩, h3, h4⟩
theorem rows_of {U : World} {ao : Option Addr} {cap : Nat} {kv : List RowV} {L : List (List Int)} (h : SlAt (RC cellsR) 1 U ao cap kv) (hm : kv.map (·.1) = L) (hs : ∀ y ∈ kv, IntsAt U y.2.1 y.2.2 y.1) : Fo.RowsAt U ao cap L := by
  subst hm
  refine ⟨by simpa using h.le, h.max, h.nil, fun h0 => ?_⟩
  simp at h0
  obtain ⟨b, off, rfl, hlt, hc⟩ := h.cells h0
  refine ⟨b, off, rfl, hlt, fun i hi => ?_⟩
  simp at hi
  obtain ⟨cs, h1, h3, h4⟩ := hc i hi
  have h1 : cs = cellsR kv[i] := h1
  refine ⟨cs, ⟨kv[i].2.1, kv[i].2.2, by simpa [cellsR] using h1, by simpa using hs kv[i] (List.getElem_mem hi)⟩, h3, h4⟩
theorem cabs_of {U : World} {ao : Option Addr} {cap : Nat} {l : List Sh.Cab} (h : SlAt (RC cellsC) 4 U ao cap l) (hz : ∀ c ∈ l, c.1.size ≤ maxLen) : Sh.CabsAt U ao cap l := by
  refine ⟨h.le, h.max, h.nil, fun h0 => ?_⟩
  obtain ⟨b, off, rfl, hlt, hc⟩ := h.cells h0
  refine ⟨b, off, rfl, hlt, fun i hi => ?_⟩
  obtain ⟨cs, h1, h3, h4⟩ := hc i hi
  exact ⟨cs, ⟨h1, hz _ (List.getElem_mem hi)⟩, h3, h4⟩
theorem cabs_plain {U : World} {ao : Option Addr} {cap : Nat} {l : List Sh.Cab} (h : Sh.CabsAt U ao cap l) : SlAt (RC cellsC) 4 U ao cap l ∧ ∀ c ∈ l, c.1.size ≤ maxLen := by
  refine ⟨⟨h.le, h.max, h.nil, fun h0 => ?_⟩, fun c hc => ?_⟩
  · obtain ⟨b, off, rfl, hlt, hc⟩ := h.cells h0
    refine ⟨b, off, rfl, hlt, fun i hi => ?_⟩
    obtain ⟨cs, h1, h3, h4⟩ := hc i hi
    exact ⟨cs, h1.1, h3, h4⟩
  · obtain ⟨i, hi, rfl⟩ := List.getElem_of_mem hc
    obtain ⟨b, off, _, _, hcl⟩ := h.cells (by omega)
    obtain ⟨cs, h1, _⟩ := hcl i hi
    exact h1.2
theorem cats_names {U : World} {ao : Option Addr} {cap : Nat} {l : List Sh.Cat} (h : Sh.CatsAt U ao cap l) : ∀ c ∈ l, c.1.size ≤ maxLen := fun c hc => by
  obtain ⟨i, hi, rfl⟩ := List.getElem_of_mem hc
  obtain ⟨b, off, _, _, hcl⟩ := h.cells (by omega)
  obtain ⟨cs, ⟨_, _, _, _, h1⟩, _⟩ := hcl i hi
  exact h1

/-- Not too long for memory. -/
structure Small (x : Sail) : Prop where
  cs : x.s.cs.length ≤ 1000
  hi : ∀ c ∈ x.s.cs, c.2.length ≤ 1000
  bs : x.s.bs.length ≤ 1000
  L : x.L.length ≤ 1000
  r : ∀ r ∈ x.L, r.length ≤ 1000
  B : x.B.length ≤ 1000
  bk : x.bks.length ≤ 1000
  fo : ∀ b ∈ x.bks, b.fol.length ≤ 1000
theorem small_of {x : Sail} (h : P.SailE x 0) : Small x := by
  obtain ⟨_, hf, h0, hbk, h16, _⟩ := sail_ok h
  have h0' : Sh.P.shipE x.s.legs x.s.souls x.s.cs x.s.bs = 0 := h0
  obtain ⟨_, c2, c3, _, c5⟩ := Sh.ship_ok h0'
  have hfare : Fo.P.fareE x.L x.al x.th x.B x.dn x.s.cs.length x.s.legs = 0 := by
    unfold P.frame at hf
    rw [if_pos h0] at hf
    split at hf
    · assumption
    · contradiction
  obtain ⟨_, f2, f3, f4, _, _, _, f8⟩ := Fo.fareE_zero hfare
  refine ⟨by omega, fun c hc => ?_, by omega, by omega, fun r hr => ?_, ?_, by omega, fun b hb => ?_⟩
  · have := Sh.high_len (c3 c hc)
    omega
  · have := (f4 r hr).1
    omega
  · unfold Fo.P.bandsE at f8
    split at f8
    · omega
    · omega
  · have := Fo.folE_len (bk_ok (hbk b hb)).2.2.2.2.2.2.2.2
    omega

/-- A sailing in memory of its own: N, where that begins; m, where its bookings' does; G, the block of these. -/
structure Fresh (w : World) (N m G : Nat) (x : Sail) (a : SailA) (lv : List BkV) : Prop where
  nm : N ≤ m
  mG : m ≤ G
  ao : a.ao = some ⟨G, 0, none⟩
  cap : a.cap = x.bks.length
  low : ∀ U, w.heap.size ≤ U.heap.size → (∀ b, N ≤ b → b < m → U.heap[b]? = w.heap[b]?) → VslAt U x.s a.v ∧ Fo.FareAt U a.lo a.bo a.lc a.bc x.L x.B
  map : lv.map (·.1) = x.bks
  own : OwnB w m (.slice (some ⟨G, 0, none⟩) x.bks.length x.bks.length) lv
  ent : ∀ y ∈ lv, Fo.OwnN w (G + 1) (.slice y.2.1 y.1.fol.length y.2.2) y.1.fol
theorem Fresh.lt {w : World} {N m G : Nat} {x : Sail} {a : SailA} {lv : List BkV} (h : Fresh w N m G x a lv) : G < w.heap.size := (h.own.lt G rfl).2
theorem Fresh.below {w w' : World} {N m G : Nat} {x : Sail} {a : SailA} {lv : List BkV} (h : Fresh w N m G x a lv) (hb : Below w.heap.size w w') : Fresh w' N m G x a lv :=
  ⟨h.nm, h.mG, h.ao, h.cap, fun U h0 hU => h.low U (Nat.le_trans hb.size h0) (fun b h1 h2 => by rw [hU b h1 h2, hb.block b (by have := h.lt; have := h.mG; omega)]), h.map, OwnC.below h.own hb, fun y hy => OwnC.below (h.ent y hy) hb⟩
theorem Fresh.sail {w : World} {N m G : Nat} {x : Sail} {a : SailA} {lv : List BkV} (h : Fresh w N m G x a lv) : SailAt w x a := by
  obtain ⟨h1, h2⟩ := h.low w (Nat.le_refl _) (fun _ _ _ => rfl)
  refine ⟨h1, h2, ?_⟩
  obtain ⟨a5, c5, e5, s5⟩ := OwnC.at cellsV_len h.own
  simp only [Value.slice.injEq] at e5
  obtain ⟨rfl, -, rfl⟩ := e5
  have := BkVsAt.all (bkvs_of s5 (fun y hy => by
    obtain ⟨a6, c6, e6, s6⟩ := Fo.OwnN.at (h.ent y hy)
    simp only [Value.slice.injEq] at e6
    obtain ⟨e1, -, e2⟩ := e6
    rw [e1, e2]
    exact s6))
  rw [h.map] at this
  rw [h.ao, h.cap]
  exact this

theorem own_ints {U : World} {base : Nat} {ao : Option Addr} {cap : Nat} {l : List Int} (h : OwnC cellsI 1 3 U base (.slice ao l.length cap) l) : IntsAt U ao cap l := by
  obtain ⟨a6, c6, e6, s6⟩ := OwnC.at cellsI_len h
  simp only [Value.slice.injEq] at e6
  obtain ⟨rfl, -, rfl⟩ := e6
  exact s6
theorem own_at {α : Type} {cells : α → List Value} {size : Nat} {e : TypeId} (hc : ∀ x, (cells x).length = size) {U : World} {base n : Nat} {ao : Option Addr} {cap : Nat} {l : List α} (h : OwnC cells size e U base (.slice ao n cap) l) : SlAt (RC cells) size U ao cap l := by
  obtain ⟨a6, c6, e6, s6⟩ := OwnC.at hc h
  simp only [Value.slice.injEq] at e6
  obtain ⟨rfl, -, rfl⟩ := e6
  exact s6

abbrev O.zs : Obj := .cells #[.int .i64 0, .int .i64 0, .slice none 0 0, .slice none 0 0, .slice none 0 0, .int .i64 0, .int .i64 0, .slice none 0 0, .int .i64 0, .int .i64 0, .int .i64 0, .slice none 0 0, .bool false] 32
abbrev C.zs : Array Value := #[.int .i64 0, .int .i64 0, .slice none 0 0, .slice none 0 0, .slice none 0 0, .int .i64 0, .int .i64 0, .slice none 0 0, .int .i64 0, .int .i64 0, .int .i64 0, .slice none 0 0, .bool false]

set_option maxHeartbeats 4000000 in
theorem copied_own (x : Sail) (a : SailA) (w : World) (hs : SailAt w x a) (hS : Small x) :
    Calls Tryz.prog 179 #[V.sail x a] w fun e w' => ∃ a' lv m G, e = .returned (V.sail x a') ∧ Fresh w' (w.heap.size + 1 + 1) m G x a' lv ∧ Below w.heap.size w w' := by
  have hb0 : Below w.heap.size w ((W.sail w x a).alloc O.zs) := bvia (sail_below w x a) (by go_grown)
  have hz0 : ((W.sail w x a).alloc O.zs).heap.size = w.heap.size + 1 + 1 := by simp
  have HA0 : Aside (RowIs ((W.sail w x a).alloc O.zs) w.heap.size (C.sail x a)) := (RowIs.new w _ _).below (by go_grown)
  have HZ0 : Aside (RowIs ((W.sail w x a).alloc O.zs) (w.heap.size + 1) C.zs) := by
    have := RowIs.new (W.sail w x a) C.zs 32
    rwa [World.size_alloc] at this
  have HS : Aside (SailAt w x a) := hs
  have HSm : Aside (Small x) := hS
  clear hs hS
  go_enter Tryz.func179, Tryz.ntmps179
  go_wp2_with fail
  refine (eachK_own a.v.cao a.v.cc x.s.cs _ (HS.out.below hb0).ship.cats HSm.out.cs HSm.out.hi).mono ?_
  rintro e w1 ⟨kv, hkv, rfl, own1, sub1, hb1⟩
  rw [hz0] at own1 sub1
  rw [hz0]
  have HO1 : Aside (OwnC cellsK 2 141 w1 (w.heap.size + 1 + 1) (.slice (some ⟨w.heap.size + 1 + 1, 0, none⟩) x.s.cs.length x.s.cs.length) kv) := own1
  have HU1 : Aside (∀ y ∈ kv, OwnC cellsI 1 3 w1 (w.heap.size + 1 + 1) (.slice y.2.1 y.1.2.length y.2.2) y.1.2) := fun y hy => OwnC.ahead (sub1 y hy) (by omega)
  have HK1 : Aside (kv.map (·.1) = x.s.cs) := hkv
  have hB1 := bvia hb0 hb1
  have HA1 : Aside (RowIs w1 w.heap.size (C.sail x a)) := HA0.out.below hb1
  have HZ1 : Aside (RowIs w1 (w.heap.size + 1) C.zs) := HZ0.out.below hb1
  clear own1 sub1 hkv HA0 HZ0 hb0 hb1 hz0
  obtain ⟨d0, d1, d2, d3, d4, d5, d6, d7, d8, d9, d10, d11, d12⟩ := SRow.box HA1.out
  have f2 := HA1.out.free 2
  have hBs1 := hB1.setCell (p := ⟨w.heap.size, 2, none⟩) (Nat.le_refl _) (.slice (some ⟨w.heap.size + 1 + 1, 0, none⟩) x.s.cs.length x.s.cs.length)
  have HG1 : Aside (Up (w.heap.size + 1 + 1) w1 (w1.setCell ⟨w.heap.size, 2, none⟩ (.slice (some ⟨w.heap.size + 1 + 1, 0, none⟩) x.s.cs.length x.s.cs.length))) := Up.gr (grown_st _ _ _ _) (by omega)
  go_wp2_with fail
  refine (listC_own a.v.bao a.v.bc x.s.bs _ (cabs_plain (HS.out.below hBs1).ship.cabs).1 HSm.out.bs).mono ?_
  rintro e w2 ⟨v2, rfl, own2, hb2⟩
  obtain ⟨ao2, cap2, rfl⟩ := OwnC.form own2
  have HO2 : Aside (OwnC cellsC 4 135 w2 (w.heap.size + 1 + 1) (.slice ao2 x.s.bs.length cap2) x.s.bs) := OwnC.ahead own2 (by have := HZ1.out.lt; simp [World.setCell]; omega)
  have HT2 : Aside (Up (w.heap.size + 1 + 1) w1 w2) := Up.trans HG1.out (Up.below hb2)
  have hB2 := bvia hBs1 hb2
  have HA2 : Aside (RowIs w2 w.heap.size (C.sail x ⟨⟨some ⟨w.heap.size + 1 + 1, 0, none⟩, a.v.bao, x.s.cs.length, a.v.bc⟩, a.lo, a.bo, a.lc, a.bc, a.ao, a.cap⟩)) := (HA1.out.set (k := 2) _).below hb2
  have HZ2 : Aside (RowIs w2 (w.heap.size + 1) C.zs) := (HZ1.out.gr (grown_st _ _ _ _) (by simp)).below hb2
  clear own2 HG1 HA1 HZ1 hBs1 hb2 f2 d0 d1 d2 d3 d4 d5 d6 d7 d8 d9 d10 d11 d12
  obtain ⟨d0, d1, d2, d3, d4, d5, d6, d7, d8, d9, d10, d11, d12⟩ := SRow.box HA2.out
  have f3 := HA2.out.free 3
  have hBs2 := hB2.setCell (p := ⟨w.heap.size, 3, none⟩) (Nat.le_refl _) (.slice ao2 x.s.bs.length cap2)
  have HG2 : Aside (Up (w.heap.size + 1 + 1) w2 (w2.setCell ⟨w.heap.size, 3, none⟩ (.slice ao2 x.s.bs.length cap2))) := Up.gr (grown_st _ _ _ _) (by omega)
  go_wp2_with fail
  refine (eachR_own a.lo a.lc x.L _ (HS.out.below hBs2).fare.legs HSm.out.L HSm.out.r).mono ?_
  rintro e w3 ⟨rv, hrv, rfl, own3, sub3, hb3⟩
  obtain ⟨H3, hH3⟩ : ∃ H3, (w2.setCell ⟨w.heap.size, 3, none⟩ (.slice ao2 x.s.bs.length cap2)).heap.size = H3 := ⟨_, rfl⟩
  have hH3' : w.heap.size + 1 + 1 ≤ H3 := by rw [← hH3]; have := HZ2.out.lt; simp [World.setCell]; omega
  rw [hH3] at own3 sub3
  rw [hH3]
  have HO3 : Aside (OwnC cellsR 1 47 w3 (w.heap.size + 1 + 1) (.slice (some ⟨H3, 0, none⟩) x.L.length x.L.length) rv) := OwnC.ahead own3 hH3'
  have HU3 : Aside (∀ y ∈ rv, OwnC cellsI 1 3 w3 (w.heap.size + 1 + 1) (.slice y.2.1 y.1.length y.2.2) y.1) := fun y hy => OwnC.ahead (sub3 y hy) (by omega)
  have HK3 : Aside (rv.map (·.1) = x.L) := hrv
  have HT3 : Aside (Up (w.heap.size + 1 + 1) w2 w3) := Up.trans HG2.out (Up.below hb3)
  have hB3 := bvia hBs2 hb3
  have HA3 : Aside (RowIs w3 w.heap.size (C.sail x ⟨⟨some ⟨w.heap.size + 1 + 1, 0, none⟩, ao2, x.s.cs.length, cap2⟩, a.lo, a.bo, a.lc, a.bc, a.ao, a.cap⟩)) := (HA2.out.set (k := 3) _).below hb3
  have HZ3 : Aside (RowIs w3 (w.heap.size + 1) C.zs) := (HZ2.out.gr (grown_st _ _ _ _) (by simp)).below hb3
  clear own3 sub3 hrv HG2 HA2 HZ2 hBs2 hb3 f3 d0 d1 d2 d3 d4 d5 d6 d7 d8 d9 d10 d11 d12 hH3 hH3'
  obtain ⟨d0, d1, d2, d3, d4, d5, d6, d7, d8, d9, d10, d11, d12⟩ := SRow.box HA3.out
  have f4 := HA3.out.free 4
  have hBs3 := hB3.setCell (p := ⟨w.heap.size, 4, none⟩) (Nat.le_refl _) (.slice (some ⟨H3, 0, none⟩) x.L.length x.L.length)
  have HG3 : Aside (Up (w.heap.size + 1 + 1) w3 (w3.setCell ⟨w.heap.size, 4, none⟩ (.slice (some ⟨H3, 0, none⟩) x.L.length x.L.length))) := Up.gr (grown_st _ _ _ _) (by omega)
  go_wp2_with fail
  refine (listP_own a.bo a.bc x.B _ (HS.out.below hBs3).fare.bands HSm.out.B).mono ?_
  rintro e w4 ⟨v4, rfl, own4, hb4⟩
  obtain ⟨ao4, cap4, rfl⟩ := OwnC.form own4
  have HO4 : Aside (OwnC cellsG 2 143 w4 (w.heap.size + 1 + 1) (.slice ao4 x.B.length cap4) x.B) := OwnC.ahead own4 (by have := HZ3.out.lt; simp [World.setCell]; omega)
  have HT4 : Aside (Up (w.heap.size + 1 + 1) w3 w4) := Up.trans HG3.out (Up.below hb4)
  have hB4 := bvia hBs3 hb4
  have HA4 : Aside (RowIs w4 w.heap.size (C.sail x ⟨⟨some ⟨w.heap.size + 1 + 1, 0, none⟩, ao2, x.s.cs.length, cap2⟩, some ⟨H3, 0, none⟩, a.bo, x.L.length, a.bc, a.ao, a.cap⟩)) := (HA3.out.set (k := 4) _).below hb4
  have HZ4 : Aside (RowIs w4 (w.heap.size + 1) C.zs) := (HZ3.out.gr (grown_st _ _ _ _) (by simp)).below hb4
  clear own4 HG3 HA3 HZ3 hBs3 hb4 f4 d0 d1 d2 d3 d4 d5 d6 d7 d8 d9 d10 d11 d12
  obtain ⟨d0, d1, d2, d3, d4, d5, d6, d7, d8, d9, d10, d11, d12⟩ := SRow.box HA4.out
  have f7 := HA4.out.free 7
  have hBs4 := hB4.setCell (p := ⟨w.heap.size, 7, none⟩) (Nat.le_refl _) (.slice ao4 x.B.length cap4)
  have HG4 : Aside (Up (w.heap.size + 1 + 1) w4 (w4.setCell ⟨w.heap.size, 7, none⟩ (.slice ao4 x.B.length cap4))) := Up.gr (grown_st _ _ _ _) (by omega)
  go_wp2_with fail
  refine (eachB_own a.ao a.cap x.bks _ (HS.out.below hBs4).bks HSm.out.bk HSm.out.fo).mono ?_
  rintro e w5 ⟨lv, hlv, rfl, own5, sub5, hb5⟩
  obtain ⟨m, hm⟩ : ∃ m, (w4.setCell ⟨w.heap.size, 7, none⟩ (.slice ao4 x.B.length cap4)).heap.size = m := ⟨_, rfl⟩
  have hm4 : w4.heap.size = m := by rw [← hm]; simp [World.setCell]
  have hm2 : w.heap.size + 1 + 1 ≤ m := by rw [← hm4]; have := HZ4.out.lt; omega
  rw [hm] at own5 sub5
  rw [hm]
  have HO5 : Aside (OwnB w5 m (.slice (some ⟨m, 0, none⟩) x.bks.length x.bks.length) lv) := own5
  have HU5 : Aside (∀ y ∈ lv, Fo.OwnN w5 (m + 1) (.slice y.2.1 y.1.fol.length y.2.2) y.1.fol) := sub5
  have HK5 : Aside (lv.map (·.1) = x.bks) := hlv
  have HT5 : Aside (Up (w.heap.size + 1 + 1) w4 w5) := Up.trans HG4.out (Up.below hb5)
  have hB5 := bvia hBs4 hb5
  have HA5 : Aside (RowIs w5 w.heap.size (C.sail x ⟨⟨some ⟨w.heap.size + 1 + 1, 0, none⟩, ao2, x.s.cs.length, cap2⟩, some ⟨H3, 0, none⟩, ao4, x.L.length, cap4, a.ao, a.cap⟩)) := (HA4.out.set (k := 7) _).below hb5
  have HZ5 : Aside (RowIs w5 (w.heap.size + 1) C.zs) := (HZ4.out.gr (grown_st _ _ _ _) (by simp)).below hb5
  have HM : Aside (w4.heap.size = m ∧ w.heap.size + 1 + 1 ≤ m) := ⟨hm4, hm2⟩
  clear own5 sub5 hlv HG4 HA4 HZ4 hBs4 hb5 f7 d0 d1 d2 d3 d4 d5 d6 d7 d8 d9 d10 d11 d12 hm hm4 hm2
  obtain ⟨d0, d1, d2, d3, d4, d5, d6, d7, d8, d9, d10, d11, d12⟩ := SRow.box HA5.out
  have f11 := HA5.out.free 11
  have HB6 : Aside (Below w.heap.size w (w5.setCell ⟨w.heap.size, 11, none⟩ (.slice (some ⟨m, 0, none⟩) x.bks.length x.bks.length))) := hB5.setCell (p := ⟨w.heap.size, 11, none⟩) (Nat.le_refl _) _
  have HT6 : Aside (Up (w.heap.size + 1 + 1) w5 (w5.setCell ⟨w.heap.size, 11, none⟩ (.slice (some ⟨m, 0, none⟩) x.bks.length x.bks.length))) := Up.gr (grown_st _ _ _ _) (by omega)
  have HZ6 : Aside (RowIs (w5.setCell ⟨w.heap.size, 11, none⟩ (.slice (some ⟨m, 0, none⟩) x.bks.length x.bks.length)) (w.heap.size + 1) C.zs) := HZ5.out.gr (grown_st _ _ _ _) (by simp)
  clear HZ5 HA5
  go_wp2_with (refine wpList_stC rfl 32 _ _ (by rfl) (w.heap.size + 1) C.zs (C.sail x ⟨⟨some ⟨w.heap.size + 1 + 1, 0, none⟩, ao2, x.s.cs.length, cap2⟩, some ⟨H3, 0, none⟩, ao4, x.L.length, cap4, some ⟨m, 0, none⟩, x.bks.length⟩) Tryz.sizeSail (by rfl) (by rfl) HZ6.out rfl (sail_one _ _) ?_; intro w9 hr9 hg9)
  have hT9 : Up (w.heap.size + 1 + 1) w5 w9 := Up.trans HT6.out (Up.gr hg9 (by omega))
  have hT4 := Up.trans HT5.out hT9
  have hT3 := Up.trans HT4.out hT4
  have hT2 := Up.trans HT3.out hT3
  have hT1 := Up.trans HT2.out hT2
  obtain ⟨hm4, hm2⟩ := HM.out
  refine bodyPost_ret (res1 rfl hr9 _ rfl Tryz.underlying32 rfl Tryz.sizeSail) rfl ⟨_, lv, m, m, rfl, ⟨by omega, Nat.le_refl _, rfl, rfl, fun U hU0 hU => ?_, HK5.out, OwnC.up HO5.out (hT9.mono (by omega)), fun y hy => OwnC.up (HU5.out y hy) (hT9.mono (by omega))⟩, below_gr HB6.out HB6.out.size hg9 (by omega)⟩
  have hs1 := HT2.out.1
  have hs2 := HT3.out.1
  have hs3 := HT4.out.1
  have u1 : Up (w.heap.size + 1 + 1) w1 U := ⟨Nat.le_trans hT1.1 hU0, fun i h0 hi => by rw [hU i h0 (by omega), hT1.2 i h0 hi]⟩
  have u2 : Up (w.heap.size + 1 + 1) w2 U := ⟨Nat.le_trans hT2.1 hU0, fun i h0 hi => by rw [hU i h0 (by omega), hT2.2 i h0 hi]⟩
  have u3 : Up (w.heap.size + 1 + 1) w3 U := ⟨Nat.le_trans hT3.1 hU0, fun i h0 hi => by rw [hU i h0 (by omega), hT3.2 i h0 hi]⟩
  have u4 : Up (w.heap.size + 1 + 1) w4 U := ⟨Nat.le_trans hT4.1 hU0, fun i h0 hi => by rw [hU i h0 (by omega), hT4.2 i h0 hi]⟩
  refine ⟨⟨cats_of (own_at cellsK_len (OwnC.up HO1.out u1)) HK1.out (fun y hy => own_ints (OwnC.up (HU1.out y hy) u1)) (cats_names HS.out.ship.cats), cabs_of (own_at cellsC_len (OwnC.up HO2.out u2)) (cabs_plain HS.out.ship.cabs).2⟩,
    ⟨rows_of (own_at cellsR_len (OwnC.up HO3.out u3)) HK3.out (fun y hy => own_ints (OwnC.up (HU3.out y hy) u3)), own_at cellsG_len (OwnC.up HO4.out u4)⟩⟩

end Go.Proofs.YtlamhfbdeinkkaeGreat.St
