/- The reference: TurnOf. -/
import Derived.Test.YtlamhfbdeinkkaeGreatVyFt
import Derived.Test.YtlamhfbdeinkkaeGreatChDt
import Derived.Deep.CutRange
namespace Go.Proofs.YtlamhfbdeinkkaeGreat.St
open Go.RowKit Bk
set_option linter.unusedSimpArgs false
set_option linter.unusedVariables false
set_option maxRecDepth 10000

/-- Bookings that lie in blocks below n0, or from N on, and not in block r. -/
structure BLies (n0 N : Nat) (r : Option Nat) (w : World) (ao : Option Addr) (cap : Nat) (lv : List BkV) : Prop where
  at_ : BkVsAt w ao cap lv
  lst : ∀ b o, ao = some ⟨b, o, none⟩ → 0 < lv.length → b < w.heap.size ∧ some b ≠ r ∧ (b < n0 ∨ N ≤ b)
  ent : ∀ y ∈ lv, ∀ b o, y.2.1 = some ⟨b, o, none⟩ → 0 < y.1.fol.length → b < w.heap.size ∧ some b ≠ r ∧ (b < n0 ∨ N ≤ b)
theorem bkvs_on {w U : World} {ao : Option Addr} {cap : Nat} {lv : List BkV} (h : BkVsAt w ao cap lv) (h1 : ∀ b o, ao = some ⟨b, o, none⟩ → 0 < lv.length → b < U.heap.size ∧ U.heap[b]? = w.heap[b]?) (h2 : ∀ y ∈ lv, ∀ b o, y.2.1 = some ⟨b, o, none⟩ → 0 < y.1.fol.length → b < U.heap.size ∧ U.heap[b]? = w.heap[b]?) : BkVsAt U ao cap lv := by
  refine bkvs_of ?_ (fun y hy => ents_on (h.ents y hy) (h2 y hy))
  have hp := h.plain
  refine ⟨hp.le, hp.max, hp.nil, fun h0 => ?_⟩
  obtain ⟨b, off, e1, e2, e3⟩ := hp.cells h0
  obtain ⟨g1, g2⟩ := h1 b off e1 h0
  refine ⟨b, off, e1, g1, fun i hi => ?_⟩
  obtain ⟨cs, c1, c2, c3⟩ := e3 i hi
  exact ⟨cs, c1, c2, fun j u hu => by rw [World.cell?_of_block (a := ⟨b, off + i * 11 + j, none⟩) g2]; exact c3 j u hu⟩
theorem BLies.on {n0 N : Nat} {r r' : Option Nat} {w U : World} {ao : Option Addr} {cap : Nat} {lv : List BkV} (h : BLies n0 N r w ao cap lv) (hs : w.heap.size ≤ U.heap.size) (hb : ∀ b, b < w.heap.size → some b ≠ r → (b < n0 ∨ N ≤ b) → U.heap[b]? = w.heap[b]? ∧ some b ≠ r') : BLies n0 N r' U ao cap lv := by
  refine ⟨bkvs_on h.at_ (fun b o e hl => ?_) (fun y hy b o e hl => ?_), fun b o e hl => ?_, fun y hy b o e hl => ?_⟩
  · obtain ⟨g1, g2, g3⟩ := h.lst b o e hl
    exact ⟨by omega, (hb b g1 g2 g3).1⟩
  · obtain ⟨g1, g2, g3⟩ := h.ent y hy b o e hl
    exact ⟨by omega, (hb b g1 g2 g3).1⟩
  · obtain ⟨g1, g2, g3⟩ := h.lst b o e hl
    exact ⟨by omega, (hb b g1 g2 g3).2, g3⟩
  · obtain ⟨g1, g2, g3⟩ := h.ent y hy b o e hl
    exact ⟨by omega, (hb b g1 g2 g3).2, g3⟩
theorem BLies.below {n0 N : Nat} {r : Option Nat} {w U : World} {ao : Option Addr} {cap : Nat} {lv : List BkV} (h : BLies n0 N r w ao cap lv) (hb : Below w.heap.size w U) : BLies n0 N r U ao cap lv := h.on hb.size (fun b h1 h2 _ => ⟨hb.block b h1, h2⟩)
theorem BLies.gr {n0 N g : Nat} {r : Option Nat} {w U : World} {ao : Option Addr} {cap : Nat} {lv : List BkV} (h : BLies n0 N r w ao cap lv) (hg : w.grownBy U (some g)) (h1 : n0 ≤ g) (h2 : g < N) : BLies n0 N r U ao cap lv := h.on hg.size (fun b e1 e2 e3 => ⟨hg.block b e1 (by simp; omega), e2⟩)
theorem BLies.app {n0 N : Nat} {r r' : Option Nat} {w U : World} {ao : Option Addr} {cap : Nat} {lv : List BkV} (h : BLies n0 N r w ao cap lv) (hg : w.grownBy U r) (h1 : r' = r ∨ ∃ H, r' = some H ∧ w.heap.size ≤ H) : BLies n0 N r' U ao cap lv := h.on hg.size (fun b e1 e2 e3 => ⟨hg.block b e1 e2, by
  rcases h1 with rfl | ⟨H, rfl, hH⟩
  · exact e2
  · intro e
    have := Option.some.inj e
    omega⟩)

/-- Where TurnOf stands when k bookings were looked at; x is on its day. -/
structure TurSt (n0 : Nat) (w : World) (x : Sail) (a : SailA) (k : Nat) (v : Value) (wr : World) : Prop where
  lv : ∃ lv ao cap, lv.map (·.1) = (x.bks.take k).map (P.turnB x) ++ x.bks.drop k ∧ BLies n0 (w.heap.size + 1 + 1) v.ownBlock wr ao cap lv ∧ SRow wr w.heap.size (P.setB x ((x.bks.take k).map (P.turnB x) ++ x.bks.drop k)) ⟨a.v, a.lo, a.bo, a.lc, a.bc, ao, cap⟩
  ids : OwnJ wr (w.heap.size + 1 + 1) v (P.lateI x.day (x.bks.take k))
  zs : RowIs wr (w.heap.size + 1) C.zs
  bl : Below w.heap.size w wr
theorem TurSt.below {n0 : Nat} {w : World} {x : Sail} {a : SailA} {k : Nat} {v : Value} {wr wr' : World} (h : TurSt n0 w x a k v wr) (hb : Below wr.heap.size wr wr') : TurSt n0 w x a k v wr' := by
  obtain ⟨lv, ao, cap, h1, h2, h3⟩ := h.lv
  exact ⟨⟨lv, ao, cap, h1, h2.below hb, h3.below hb⟩, OwnC.below h.ids hb, h.zs.below hb, bvia h.bl hb⟩
theorem TurSt.skip {n0 : Nat} {w : World} {x : Sail} {a : SailA} {k : Nat} {v : Value} {wr : World} {b : Bkg} (h : TurSt n0 w x a k v wr) (hk : x.bks[k]? = some b) (hl : P.late x.day b = false) : TurSt n0 w x a (k + 1) v wr := by
  obtain ⟨hkl, e⟩ := List.getElem?_eq_some_iff.1 hk
  have et : x.bks.take (k + 1) = x.bks.take k ++ [b] := by rw [List.take_succ_eq_append_getElem hkl, e]
  have ei : P.lateI x.day (x.bks.take (k + 1)) = P.lateI x.day (x.bks.take k) := by rw [et, lateI_snoc, hl]; simp
  have eb : P.turnB x b = b := by rw [P.turnB, hl]; rfl
  have em : (x.bks.take (k + 1)).map (P.turnB x) ++ x.bks.drop (k + 1) = (x.bks.take k).map (P.turnB x) ++ x.bks.drop k := by
    rw [map_step hk, eb]
    obtain ⟨c1, c2⟩ := List.getElem?_eq_some_iff.1 (map_at (f := P.turnB x) hk)
    conv => lhs; rw [← c2]
    exact List.set_getElem_self c1
  obtain ⟨lv, ao, cap, h1, h2, h3⟩ := h.lv
  exact ⟨⟨lv, ao, cap, by rw [em]; exact h1, h2, by rw [em]; exact h3⟩, by rw [ei]; exact h.ids, h.zs, h.bl⟩
theorem TurSt.next {n0 : Nat} {w : World} {x : Sail} {a : SailA} {k G cap' : Nat} {v v3 : Value} {wr wB w3 w8 w9 : World} {b : Bkg} {lv : List BkV} {ao : Option Addr} {cap : Nat} {fo fo' : Option Addr} {fc fc' : Nat} (hn : n0 ≤ w.heap.size) (h : TurSt n0 w x a k v wr) (hk : x.bks[k]? = some b) (hl : P.late x.day b = true)
    (hv1 : lv.map (·.1) = (x.bks.take k).map (P.turnB x) ++ x.bks.drop k) (hv2 : BLies n0 (w.heap.size + 1 + 1) v.ownBlock wr ao cap lv) (hv3 : lv[k]? = some (b, fo, fc)) (hB : Below wr.heap.size wr wB)
    (own3 : OwnJ w3 (w.heap.size + 1 + 1) v3 (P.lateI x.day (x.bks.take k) ++ [b.id])) (gr3 : wB.grownBy w3 v.ownBlock) (hor : v3.ownBlock = v.ownBlock ∨ v3.ownBlock = some (wB.heap.size + 1)) (hb8 : Below w3.heap.size w3 w8)
    (own8 : OwnB w8 w3.heap.size (.slice (some ⟨G, 0, none⟩) x.bks.length cap') (lv.set k (P.dropB x b, fo', fc'))) (hen : (fo' = fo ∧ fc' = fc ∧ (P.dropB x b).fol = b.fol) ∨ Fo.OwnN w8 w3.heap.size (.slice fo' (P.dropB x b).fol.length fc') (P.dropB x b).fol)
    (gr9 : w8.grownBy w9 (some w.heap.size)) (hr9 : SRow w9 w.heap.size (P.setB x (((x.bks.take k).map (P.turnB x) ++ x.bks.drop k).set k (P.dropB x b))) ⟨a.v, a.lo, a.bo, a.lc, a.bc, some ⟨G, 0, none⟩, cap'⟩) : TurSt n0 w x a (k + 1) v3 w9 := by
  obtain ⟨hkl, e⟩ := List.getElem?_eq_some_iff.1 hk
  have et : x.bks.take (k + 1) = x.bks.take k ++ [b] := by rw [List.take_succ_eq_append_getElem hkl, e]
  have ei : P.lateI x.day (x.bks.take (k + 1)) = P.lateI x.day (x.bks.take k) ++ [b.id] := by rw [et, lateI_snoc, hl]; rfl
  have eb : P.turnB x b = P.dropB x b := by rw [P.turnB, if_pos hl]
  have em := map_step (f := P.turnB x) hk
  rw [eb] at em
  have hwl := h.bl.size
  have hzl := h.zs.lt
  have hsB := hB.size
  have hs3 := gr3.size
  have hs8 := hb8.size
  have hs9 := gr9.size
  have hvr : ∀ r, v.ownBlock = some r → w.heap.size + 1 + 1 ≤ r := fun r hr => (h.ids.lt r hr).1
  have hv3r : ∀ r, v3.ownBlock = some r → w.heap.size + 1 + 1 ≤ r ∧ r < w3.heap.size := fun r hr => own3.lt r hr
  have hL3 : BLies n0 (w.heap.size + 1 + 1) v3.ownBlock w8 ao cap lv := ((hv2.below hB).app gr3 (by
    rcases hor with h1 | h1
    · exact .inl h1
    · exact .inr ⟨_, h1, by omega⟩)).below hb8
  have hG := own8.lt G rfl
  have hlen : (lv.set k (P.dropB x b, fo', fc')).length = x.bks.length := by
    have := congrArg List.length hv1
    simp at this
    rw [List.length_set]
    omega
  have hent : ∀ y ∈ lv.set k (P.dropB x b, fo', fc'), Fo.EntsAt w8 y.2.1 y.2.2 y.1.fol ∧ ∀ b1 o1, y.2.1 = some ⟨b1, o1, none⟩ → 0 < y.1.fol.length → b1 < w8.heap.size ∧ some b1 ≠ v3.ownBlock ∧ (b1 < n0 ∨ w.heap.size + 1 + 1 ≤ b1) := fun y hy => by
    rcases List.mem_or_eq_of_mem_set hy with hy | rfl
    · exact ⟨hL3.at_.ents y hy, hL3.ent y hy⟩
    · rcases hen with ⟨rfl, rfl, e3⟩ | hO
      · have hm := List.mem_of_getElem? hv3
        refine ⟨?_, fun b1 o1 e4 hl1 => hL3.ent _ hm b1 o1 e4 (by have hl1 : 0 < (P.dropB x b).fol.length := hl1; rw [e3] at hl1; exact hl1)⟩
        show Fo.EntsAt w8 fo' fc' (P.dropB x b).fol
        rw [e3]
        exact hL3.at_.ents _ hm
      · refine ⟨ents_own hO, fun b1 o1 e4 hl1 => ?_⟩
        have e4 : fo' = some ⟨b1, o1, none⟩ := e4
        have h2 := hO.lt b1 (by rw [e4]; rfl)
        refine ⟨h2.2, fun er => ?_, .inr (by omega)⟩
        have := hv3r b1 er.symm
        omega
  have hL8 : BLies n0 (w.heap.size + 1 + 1) v3.ownBlock w8 (some ⟨G, 0, none⟩) cap' (lv.set k (P.dropB x b, fo', fc')) := by
    refine ⟨bkvs_of (own_at cellsV_len own8) (fun y hy => (hent y hy).1), fun b1 o1 e1 _ => ?_, fun y hy => (hent y hy).2⟩
    simp only [Option.some.injEq, Addr.mk.injEq, and_true] at e1
    obtain ⟨rfl, rfl⟩ := e1
    refine ⟨hG.2, fun er => ?_, .inr (by omega)⟩
    have := hv3r G er.symm
    omega
  have hrow : RowIs w3 (w.heap.size + 1) C.zs := (h.zs.below hB).gr gr3 (fun er => by have := hvr _ er.symm; omega)
  refine ⟨⟨lv.set k (P.dropB x b, fo', fc'), some ⟨G, 0, none⟩, cap', ?_, hL8.gr gr9 (by omega) (by omega), ?_⟩, ?_, (hrow.below hb8).gr gr9 (by simp), ?_⟩
  · rw [List.map_set, hv1, em]
  · rw [em]
    exact hr9
  · rw [ei]
    exact OwnC.apart (OwnC.below own3 hb8) gr9 (fun r hr hv => by cases hr; have := hv3r _ hv; omega)
  · have h1 : Below w.heap.size w w3 := OwnC.grown (bvia h.bl hB) (OwnC.below h.ids hB) (by omega) gr3
    have h2 := bvia h1 hb8
    exact below_gr h2 h2.size gr9 (Nat.le_refl _)

theorem asv {p : Prop} (h : p) : Aside p := h
set_option maxHeartbeats 16000000 in
theorem turnOf_any (x : Sail) (a : SailA) (d : Int) (w0 w : World) (hb00 : Below w0.heap.size w0 w) (hs0 : SailAt w0 x a) (hE : P.SailE x 0) (hd : 0 ≤ d ∧ d ≤ 9999) :
    Calls Tryz.prog 35 #[V.sail x a, .int .i64 d] w fun e w' => ∃ a' v, e = .returned (.tuple #[V.sail (P.turnS (P.onDay x d)) a', v]) ∧ SailTw w0.heap.size w.heap.size w' (P.turnS (P.onDay x d)) a' ∧ OwnJ w' w.heap.size v (P.lateI d x.bks) ∧ Below w.heap.size w w' := by
  have HE : Aside (P.SailE x 0) := hE
  have HED : Aside (P.SailE (P.onDay x d) 0) := onDay_right hE hd
  have HDY : Aside (0 ≤ d ∧ d ≤ 9999) := hd
  have HLV : Aside ((0 ≤ x.lvs ∧ x.lvs ≤ 9999) ∧ ∀ z ∈ x.B, 0 ≤ z.2 ∧ z.2 ≤ 100) := by
    obtain ⟨hp, hf, _⟩ := sail_ok hE
    obtain ⟨_, g2, g3, g4, _⟩ := frame_zero hf
    exact ⟨by simpa [P.btw] using g4, Fo.bandsE_in (Fo.fareE_zero g2).2.2.2.2.2.2.2⟩
  obtain ⟨_, _, _, hbk, h16, _⟩ := sail_ok hE
  have HBK : Aside (∀ b ∈ x.bks, P.bkE x.s b = 0) := hbk
  have HS0 : Aside (SailAt w0 x a) := hs0
  have HB00 : Aside (Below w0.heap.size w0 w) := hb00
  have hn0 := hb00.size
  have hb0 : Below w.heap.size w ((W.sail w (P.onDay x d) a).alloc O.zs) := bvia (sail_below w (P.onDay x d) a) (al _ _)
  have hst : TurSt w0.heap.size w (P.onDay x d) a 0 (.slice none 0 0) ((W.sail w (P.onDay x d) a).alloc O.zs) := by
    obtain ⟨lv, hlv, hl⟩ := BksAt.pick hs0.bks
    refine ⟨⟨lv, a.ao, a.cap, hlv, ⟨SlAt.below RBkV.mono hl (hb00.trans (hb0.mono hn0)), fun b o e h0 => ?_, fun y hy b o e h0 => ?_⟩, (RowIs.new w _ _ : SRow (W.sail w (P.onDay x d) a) w.heap.size (P.onDay x d) a).below (al _ _)⟩, OwnC.nil _ _, ?_, hb0⟩
    · obtain ⟨b2, o2, e1, e2, _⟩ := hl.cells h0
      rw [e] at e1
      simp only [Option.some.injEq, Addr.mk.injEq, and_true] at e1
      obtain ⟨rfl, rfl⟩ := e1
      have := hb0.size
      exact ⟨by omega, by simp [Value.ownBlock], .inl e2⟩
    · have e2 := ents_lt (hl.ents y hy) h0 e
      have := hb0.size
      exact ⟨by omega, by simp [Value.ownBlock], .inl e2⟩
    · have := RowIs.new (W.sail w (P.onDay x d) a) C.zs 32
      rwa [World.size_alloc] at this
  have HST : Aside (TurSt w0.heap.size w (P.onDay x d) a 0 (.slice none 0 0) ((W.sail w (P.onDay x d) a).alloc O.zs)) := hst
  have hXX : SRow ((W.sail w x a).alloc O.zs) w.heap.size x a := (RowIs.new w _ _ : SRow (W.sail w x a) w.heap.size x a).below (al _ _)
  have f9 := hXX.free 9
  obtain ⟨d0, d1, d2, d3, d4, d5, d6, d7, d8, d9, d10, d11, d12⟩ := SRow.box hXX
  clear hb00 hs0 hE hd hbk hst hb0 hXX
  go_enter Tryz.func35, Tryz.ntmps35
  go_wp2
  clear d0 d1 d2 d3 d4 d5 d6 d7 d8 d9 d10 d11 d12 f9
  go_loopg [6, 7] x.bks.length (fun q lv iv wr => ∃ (k : Nat) (v : Value), k ≤ x.bks.length ∧ q = x.bks.length - k ∧ v = lv ∧ iv = .int .i64 k ∧ Aside (TurSt w0.heap.size w (P.onDay x d) a k v wr))
  case atStart => exact ⟨0, _, Nat.zero_le _, rfl, rfl, rfl, HST⟩
  case round =>
    clear HST
    obtain ⟨k, v, hk, rfl, rfl, rfl, HST⟩ := hrel
    obtain ⟨lv, ao, cap, hv1, hv2, hrow⟩ := HST.out.lv
    have hlen : (((P.onDay x d).bks.take k).map (P.turnB (P.onDay x d)) ++ (P.onDay x d).bks.drop k).length = x.bks.length := by
      show ((x.bks.take k).map (P.turnB (P.onDay x d)) ++ x.bks.drop k).length = _
      simp
      omega
    have HR : Aside (SRow wr w.heap.size (P.setB (P.onDay x d) ((x.bks.take k).map (P.turnB (P.onDay x d)) ++ x.bks.drop k)) ⟨a.v, a.lo, a.bo, a.lc, a.bc, ao, cap⟩) := hrow
    have d11 : wr.cell? ⟨w.heap.size, 11, none⟩ = some (.slice ao (((P.onDay x d).bks.take k).map (P.turnB (P.onDay x d)) ++ (P.onDay x d).bks.drop k).length cap) := hrow.cell 11
    rw [hlen] at d11
    by_cases hlt : k < x.bks.length
    rotate_left
    · obtain rfl : k = x.bks.length := by omega
      have hmm : (x.bks.take x.bks.length).map (P.turnB (P.onDay x d)) ++ x.bks.drop x.bks.length = x.bks.map (P.turnB (P.onDay x d)) := by rw [List.take_length, List.drop_length, List.append_nil]
      have HR2 : Aside (SRow wr w.heap.size (P.turnS (P.onDay x d)) ⟨a.v, a.lo, a.bo, a.lc, a.bc, ao, cap⟩) := by
        have := HR.out
        rw [hmm] at this
        exact this
      have HLV2 : Aside (lv.map (·.1) = x.bks.map (P.turnB (P.onDay x d))) := hv1.trans hmm
      have HBL : Aside (BLies w0.heap.size (w.heap.size + 1 + 1) _ wr ao cap lv) := hv2
      clear hv1 hv2 hrow hlen hmm HR
      go_upto_region 13 with (fail)
      clear d11
      obtain ⟨d0, d1, d2, d3, d4, d5, d6, d7, d8, d9, d10, d11, d12⟩ := SRow.box HR2.out
      go_wp2_with ((with_reducible refine wpList_stO (w.heap.size + 1) C.zs (C.sail (P.turnS (P.onDay x d)) ⟨a.v, a.lo, a.bo, a.lc, a.bc, ao, cap⟩) ?_ ?_ ?_ HST.out.zs ?_ ?_ ?_); exact Tryz.sizeSail; rfl; rfl; rfl; exact sail_one _ _; intro w9 hr9 hg9)
      have hids := HST.out.ids
      rw [show (P.onDay x d).bks.take x.bks.length = x.bks from List.take_length] at hids
      refine bodyPost_ret (res2 rfl hr9 _ rfl rfl Tryz.underlying32 rfl Tryz.sizeSail) rfl ⟨⟨a.v, a.lo, a.bo, a.lc, a.bc, ao, cap⟩, _, rfl, fun U hU => ?_, OwnC.ahead (OwnC.apart hids hg9 (fun r e hv => by cases e; have := (hids.lt _ hv).1; omega)) (by omega), below_gr HST.out.bl HST.out.bl.size hg9 (by omega)⟩
      have hL9 := HBL.out.gr hg9 (by omega) (by omega)
      have hBU : Below w0.heap.size w0 U := (HB00.out.trans ((below_gr HST.out.bl HST.out.bl.size hg9 (by omega)).mono hn0)).trans hU.1
      refine ⟨(HS0.out.below hBU).ship, (HS0.out.below hBU).fare, ?_⟩
      have hb := (hL9.on (r' := none) hU.1.size (fun b h1 h2 h3 => ⟨by
        rcases h3 with h3 | h3
        · exact hU.1.block b h3
        · exact hU.2 b (by omega) h1, by simp⟩)).at_
      have := BkVsAt.all hb
      rw [HLV2.out] at this
      exact this
    have hlt2 : (k : Int) < x.bks.length := by omega
    obtain ⟨b, hb⟩ : ∃ b, x.bks[k]? = some b := ⟨x.bks[k], List.getElem?_eq_getElem hlt⟩
    have HBG : Aside (x.bks[k]? = some b) := hb
    have hvl : lv.length = x.bks.length := by
      have := congrArg List.length hv1
      rw [List.length_map] at this
      exact this.trans hlen
    obtain ⟨bb, off, z, hao, hbw, hdr, ⟨q0, q1, q2, q3, q4, q5, q6, q7, q8, q9, q10⟩, hfe⟩ := BkVsAt.get hv2.at_ (Below.refl _ _) k (by omega)
    have hz : lv[k]? = some z := by
      have h0 := congrArg (fun l => l[0]?) hdr
      simpa using h0
    have hzb : z.1 = b := by
      have h6 : (lv.map (·.1))[k]? = some z.1 := by rw [List.getElem?_map, hz]; rfl
      rw [hv1] at h6
      rw [show ((P.onDay x d).bks.take k).map (P.turnB (P.onDay x d)) ++ (P.onDay x d).bks.drop k = (x.bks.take k).map (P.turnB (P.onDay x d)) ++ x.bks.drop k from rfl, map_at hb] at h6
      exact (Option.some.inj h6).symm
    obtain ⟨zb, fo, fc⟩ := z
    have hzb : zb = b := hzb
    subst hzb
    have HV1 : Aside (lv.map (·.1) = ((P.onDay x d).bks.take k).map (P.turnB (P.onDay x d)) ++ (P.onDay x d).bks.drop k) := hv1
    have HV2 : Aside (BLies w0.heap.size (w.heap.size + 1 + 1) _ wr ao cap lv) := hv2
    have HV3 : Aside (lv[k]? = some (zb, fo, fc)) := hz
    have HFE : Aside (Fo.EntsAt wr fo fc zb.fol) := hfe
    have HAO : Aside (ao = some ⟨bb, off, none⟩) := hao
    rw [hao] at d11
    clear hb hv1 hv2 hrow hlen hvl hdr hz hfe hbw hao
    go_upto_region 7 with (fail)
    clear q0 q1 q2 q3 q4 q5 q6 q7 q8 q9 q10 d11
    change Code.wp Tryz.prog _ _ _ (W.bk wr zb fo fc)
    have HBX : Aside (RowIs (W.bk wr zb fo fc) wr.heap.size (C.bk zb fo fc)) := RowIs.new wr _ _
    have HBB : Aside (Below wr.heap.size wr (W.bk wr zb fo fc)) := bk_below wr zb fo fc
    have hwr2 : w.heap.size + 1 < wr.heap.size := HST.out.zs.lt
    generalize W.bk wr zb fo fc = wB at HBX HBB ⊢
    obtain ⟨z0, z1, z2, z3, z4, z5, z6, z7, z8, z9, z10⟩ := HBX.out.bbox
    cases hL : P.late d zb
    · have HNX := HST.out.skip HBG.out hL
      have HNY := asv (HNX.below HBB.out)
      clear HNX
      by_cases hst : zb.state = 1
      · have hti : ¬ zb.til < d := by simpa [P.late, hst] using hL
        have hti' : d ≤ zb.til := by omega
        have hst' : (zb.state != 1) = false := by simp [hst]
        clear hst hL hti
        go_wp2
        go_roundg (x.bks.length - (k + 1))
        case measure => omega
        case rel => exact ⟨k + 1, _, by omega, rfl, rfl, by go_num, HNY⟩
      · have hst' : (zb.state != 1) = true := by simp [hst]
        clear hst hL
        go_wp2
        go_roundg (x.bks.length - (k + 1))
        case measure => omega
        case rel => exact ⟨k + 1, _, by omega, rfl, rfl, by go_num, HNY⟩
    obtain ⟨hst, hti⟩ := late_opt hL
    have HL : Aside (P.late d zb = true) := hL
    have HST1 : Aside (zb.state = 1) := hst
    have hst' : (zb.state != 1) = false := by simp [hst]
    have hti' : ¬ (d ≤ zb.til) := by omega
    have hlen : (P.lateI d (x.bks.take k)).length ≤ 1000000 := by
      have h1 : (P.lateI d (x.bks.take k)).length ≤ (x.bks.take k).length := by rw [P.lateI, List.length_map]; exact List.length_filter_le _ _
      have h2 := List.length_take_le k x.bks
      omega
    have hsB : w.heap.size + 1 + 1 ≤ wB.heap.size := by have := HBB.out.size; omega
    have HIV := asv (OwnC.below HST.out.ids HBB.out)
    have hbr : wr.heap.size < wB.heap.size := HBX.out.lt
    clear hL hst hti
    go_upto_region 9 with (at_builtin; refine wpList_app_at Tryz.infoI Tryz.underlying47 rfl (by decide) cellsI_len cellsI_one (by decide) (by rfl) _ _ (by rfl) (w.heap.size + 1 + 1) _ (P.lateI d (x.bks.take k)) zb.id _ rfl (by rfl) HIV.out wB.heap.size rfl (by rfl) hsB hlen ?_; intro v3 w3 own3 gr3 hor; have HO3 := asv own3; have HG3 := asv gr3; have HOR := asv hor; clear own3 gr3 hor)
    have hAO := HAO.out
    subst hAO
    have h3z := HG3.out.size
    have hvr : ∀ r, v.ownBlock = some r → w.heap.size + 1 + 1 ≤ r ∧ r < wr.heap.size := fun r hr => HST.out.ids.lt r hr
    have HX3 : SRow w3 w.heap.size (P.setB (P.onDay x d) ((x.bks.take k).map (P.turnB (P.onDay x d)) ++ x.bks.drop k)) ⟨a.v, a.lo, a.bo, a.lc, a.bc, some ⟨bb, off, none⟩, cap⟩ := (HR.out.below HBB.out).gr HG3.out (fun er => by have := hvr _ er.symm; omega)
    have HB3 : Aside (RowIs w3 wr.heap.size (C.bk zb fo fc)) := HBX.out.gr HG3.out (fun er => by have := hvr _ er.symm; omega)
    have HL3 : Aside (BLies w0.heap.size (w.heap.size + 1 + 1) v3.ownBlock w3 (some ⟨bb, off, none⟩) cap lv) := (HV2.out.below HBB.out).app HG3.out (by
      rcases HOR.out with h1 | h1
      · exact .inl h1
      · exact .inr ⟨_, h1, by omega⟩)
    have HF3 : Aside (Fo.EntsAt w3 fo fc zb.fol) := HL3.out.at_.ents _ (List.mem_of_getElem? HV3.out)
    have HS3 : SailAt w3 (P.setB (P.onDay x d) ((x.bks.take k).map (P.turnB (P.onDay x d)) ++ x.bks.drop k)) ⟨a.v, a.lo, a.bo, a.lc, a.bc, some ⟨bb, off, none⟩, cap⟩ := by
      have hW3 : Below w.heap.size w w3 := OwnC.grown (bvia HST.out.bl HBB.out) HIV.out (by omega) HG3.out
      have h0 := HS0.out.below (HB00.out.trans (hW3.mono hn0))
      refine ⟨h0.ship, h0.fare, ?_⟩
      have := BkVsAt.all HL3.out.at_
      rw [HV1.out] at this
      exact this
    have HV1' : lv.map (·.1) = (x.bks.take k).map (P.turnB (P.onDay x d)) ++ x.bks.drop k := HV1.out
    have hy16 : (P.setB (P.onDay x d) ((x.bks.take k).map (P.turnB (P.onDay x d)) ++ x.bks.drop k)).bks.length ≤ 16 ∧ (P.setB (P.onDay x d) ((x.bks.take k).map (P.turnB (P.onDay x d)) ++ x.bks.drop k)).bks.length = x.bks.length := by
      have e : (P.setB (P.onDay x d) ((x.bks.take k).map (P.turnB (P.onDay x d)) ++ x.bks.drop k)).bks.length = x.bks.length := by
        show ((x.bks.take k).map (P.turnB (P.onDay x d)) ++ x.bks.drop k).length = _
        simp
        omega
      exact ⟨by omega, e⟩
    have hyB : (P.setB (P.onDay x d) ((x.bks.take k).map (P.turnB (P.onDay x d)) ++ x.bks.drop k)).B = x.B ∧ (P.setB (P.onDay x d) ((x.bks.take k).map (P.turnB (P.onDay x d)) ++ x.bks.drop k)).lvs = x.lvs := ⟨rfl, rfl⟩
    have hlY : lv.map (·.1) = (P.setB (P.onDay x d) ((x.bks.take k).map (P.turnB (P.onDay x d)) ++ x.bks.drop k)).bks := HV1'
    have hSet : ∀ z, P.setB (P.setB (P.onDay x d) ((x.bks.take k).map (P.turnB (P.onDay x d)) ++ x.bks.drop k)) ((P.setB (P.onDay x d) ((x.bks.take k).map (P.turnB (P.onDay x d)) ++ x.bks.drop k)).bks.set k z) = P.setB (P.onDay x d) (((x.bks.take k).map (P.turnB (P.onDay x d)) ++ x.bks.drop k).set k z) := fun _ => rfl
    have hGE : P.dropB (P.onDay x d) zb = if P.goE (P.setB (P.onDay x d) ((x.bks.take k).map (P.turnB (P.onDay x d)) ++ x.bks.drop k)) zb d = 0 then P.goneB zb (P.goL (P.setB (P.onDay x d) ((x.bks.take k).map (P.turnB (P.onDay x d)) ++ x.bks.drop k)) zb d) else P.goneB zb zb.fol := by
      have h1 := gone_cn HED.out (List.mem_of_getElem? (show (P.onDay x d).bks[k]? = some zb from HBG.out)) (by rw [HST1.out]; decide)
      have h2 : P.goE (P.setB (P.onDay x d) ((x.bks.take k).map (P.turnB (P.onDay x d)) ++ x.bks.drop k)) zb d = P.goE (P.onDay x d) zb (P.onDay x d).day := rfl
      have h3 : P.goL (P.setB (P.onDay x d) ((x.bks.take k).map (P.turnB (P.onDay x d)) ++ x.bks.drop k)) zb d = P.goL (P.onDay x d) zb (P.onDay x d).day := rfl
      rw [P.dropB, h2, h3, ← h1.1]
      split
      · next h => exact h1.2 h
      · rfl
    generalize hY : P.setB (P.onDay x d) ((x.bks.take k).map (P.turnB (P.onDay x d)) ++ x.bks.drop k) = y at HX3 HS3 hy16 hyB hlY hSet hGE
    generalize hA : (⟨a.v, a.lo, a.bo, a.lc, a.bc, some ⟨bb, off, none⟩, cap⟩ : SailA) = A at HX3 HS3
    have HAE : Aside ((⟨a.v, a.lo, a.bo, a.lc, a.bc, some ⟨bb, off, none⟩, cap⟩ : SailA) = A) := hA
    have HSX : Aside (SRow w3 w.heap.size y A) := HX3
    have HSY := asv HS3
    have HYB := asv hyB
    have HLY := asv hlY
    have HSE := asv hSet
    have HGE := asv hGE
    have HPL : Aside (SlAt (RC cellsV) 11 w3 A.ao A.cap lv) := by show SlAt _ _ _ _ _ _; rw [← hA]; exact HL3.out.at_.plain
    have HF0 : Aside (Fo.P.folE zb.fol = 0) := (bk_ok (HBK.out zb (List.mem_of_getElem? HBG.out))).2.2.2.2.2.2.2.2
    obtain ⟨hy16, hyl⟩ := hy16
    have HYL := asv hyl
    clear hyl
    have hw3 : w.heap.size + 1 < w3.heap.size ∧ wr.heap.size < w3.heap.size := by omega
    clear z0 z1 z2 z3 z4 z5 z6 z7 z8 z9 z10 hlen hsB HX3 HS3 hyB hlY hSet hGE hA hY HV1' hvr hbr h3z hst' hti'
    obtain ⟨d0, d1, d2, d3, d4, d5, d6, d7, d8, d9, d10, d11, d12⟩ := SRow.box HSX.out
    obtain ⟨z0, z1, z2, z3, z4, z5, z6, z7, z8, z9, z10⟩ := HB3.out.bbox
    go_wp2_with fail
    refine (goneOf_any y A zb fo fc d _ HSY.out HF3.out HF0.out (by rw [HYB.out.1]; exact HLV.out.2) HDY.out (by rw [HYB.out.2]; exact HLV.out.1)).mono ?_
    rintro e w5 ⟨b', fo', fc', rfl, hb5, hbad, hgood⟩
    have hb6 := bvia hb5 (bk_below w5 b' fo' fc')
    have HB6 := asv hb6
    have HBAD := asv hbad
    have HGD : Aside (P.goE y zb d = 0 → b' = P.goneB zb (P.goL y zb d) ∧ Fo.OwnN (W.bk w5 b' fo' fc') w3.heap.size (.slice fo' b'.fol.length fc') b'.fol) := fun h => ⟨(hgood h).1, OwnC.below (hgood h).2 (bk_below w5 b' fo' fc')⟩
    have HX6 := asv (HSX.out.below hb6)
    have HR6 : Aside (RowIs (W.bk w5 b' fo' fc') w5.heap.size (C.bk b' fo' fc')) := RowIs.new w5 _ _
    have h5z := hb5.size
    clear d0 d1 d2 d3 d4 d5 d6 d7 d8 d9 d10 d11 d12 z0 z1 z2 z3 z4 z5 z6 z7 z8 z9 z10 hb5 hb6 hbad hgood
    go_upto_region 10 with (fail)
    change Code.wp Tryz.prog _ _ _ (W.bk w5 b' fo' fc')
    have hrw : w5.heap.size < (W.bk w5 b' fo' fc').heap.size := HR6.out.lt
    generalize W.bk w5 b' fo' fc' = w6 at HB6 HGD HX6 HR6 hrw ⊢
    obtain ⟨d0, d1, d2, d3, d4, d5, d6, d7, d8, d9, d10, d11, d12⟩ := SRow.box HX6.out
    obtain ⟨z0, z1, z2, z3, z4, z5, z6, z7, z8, z9, z10⟩ := HR6.out.bbox
    have f2 := HR6.out.free 2
    have f9 := HR6.out.free 9
    cases hz : (P.goE y zb d != 0)
    · have hz0 : P.goE y zb d = 0 := by simpa using hz
      have HOO := asv (HGD.out hz0).2
      have HDB : Aside (P.dropB (P.onDay x d) zb = b') := by
        have := HGE.out
        rw [if_pos hz0] at this
        exact this.trans (HGD.out hz0).1.symm
      have HB9 := HB6
      have HX9 := HX6
      clear hz0
      go_wp2_with fail
      refine (setBooking_own y A lv k b' fo' fc' _ HLY.out (by rw [← HAE.out]; exact (HL3.out.below HB9.out).at_.plain) hy16 (by rw [HYL.out]; exact hlt)).mono ?_
      rintro e w8 ⟨G, cap', rfl, own8, hb8⟩
      have HX5 := asv (HX9.out.below hb8)
      have HB8 := asv (HB9.out.trans (hb8.mono HB9.out.size))
      rw [HYL.out] at own8
      have HO8 := asv own8
      have HEN8 : Aside ((fo' = fo ∧ fc' = fc ∧ (P.dropB (P.onDay x d) zb).fol = zb.fol) ∨ Fo.OwnN w8 w3.heap.size (.slice fo' (P.dropB (P.onDay x d) zb).fol.length fc') (P.dropB (P.onDay x d) zb).fol) := Or.inr (by rw [HDB.out]; exact OwnC.below HOO.out hb8)
      clear d0 d1 d2 d3 d4 d5 d6 d7 d8 d9 d10 d11 d12 z0 z1 z2 z3 z4 z5 z6 z7 z8 z9 z10 own8 hb8
      go_wp2_with ((with_reducible refine wpList_stO w.heap.size (C.sail y A) (C.sail (P.setB y (y.bks.set k b')) ⟨A.v, A.lo, A.bo, A.lc, A.bc, some ⟨G, 0, none⟩, cap'⟩) ?_ ?_ ?_ HX5.out ?_ ?_ ?_); exact Tryz.sizeSail; rfl; rfl; rfl; exact sail_one _ _; intro w10 hr10 hg10; have HR10 := asv hr10; have HG10 := asv hg10; clear hr10 hg10)
      have HRA : Aside (SRow w10 w.heap.size (P.setB (P.onDay x d) (((x.bks.take k).map (P.turnB (P.onDay x d)) ++ x.bks.drop k).set k (P.dropB (P.onDay x d) zb))) ⟨a.v, a.lo, a.bo, a.lc, a.bc, some ⟨G, 0, none⟩, cap'⟩) := by
        show SRow _ _ _ _
        have := HR10.out
        rw [HSE.out, ← HAE.out] at this
        rw [HDB.out]
        exact this
      have HNX := asv (TurSt.next (n0 := w0.heap.size) (w := w) (x := P.onDay x d) (a := a) (k := k) (G := G) (cap' := cap') hn0 HST.out (show (P.onDay x d).bks[k]? = some zb from HBG.out) HL.out HV1.out HV2.out HV3.out HBB.out HO3.out HG3.out HOR.out HB8.out (by rw [HDB.out]; exact OwnC.ahead HO8.out HB9.out.size) HEN8.out HG10.out HRA.out)
      go_roundg (x.bks.length - (k + 1))
      case measure => omega
      case rel => exact ⟨k + 1, _, by omega, rfl, rfl, by go_num, HNX⟩
    · have hz1 : ¬ P.goE y zb d = 0 := by simpa using hz
      obtain ⟨e1, e2, e3⟩ := HBAD.out hz1
      have HDB : Aside (P.dropB (P.onDay x d) zb = P.goneB zb zb.fol) := by
        have := HGE.out
        rw [if_neg hz1] at this
        exact this
      have e1 := e1.symm
      have e2 := e2.symm
      have e3 := e3.symm
      subst e1
      subst e2
      subst e3
      clear hz1
      have hne : w.heap.size ≠ w5.heap.size := by omega
      go_wp2_with fail
      have g1 := grown_st w6 w5.heap.size 2 (.int .i64 3)
      have g2 := grown_st (w6.setCell ⟨w5.heap.size, 2, none⟩ (.int .i64 3)) w5.heap.size 9 (.int .i64 0)
      have hb9 := below_gr (below_gr HB6.out HB6.out.size g1 h5z) (below_gr HB6.out HB6.out.size g1 h5z).size g2 h5z
      have HB9 := asv hb9
      have HX9 := asv ((HX6.out.gr g1 (by simp; omega)).gr g2 (by simp; omega))
      clear g1 g2 hb9
      refine (setBooking_own y A lv k (P.goneB zb zb.fol) fo fc _ HLY.out (by rw [← HAE.out]; exact (HL3.out.below HB9.out).at_.plain) hy16 (by rw [HYL.out]; exact hlt)).mono ?_
      rintro e w8 ⟨G, cap', rfl, own8, hb8⟩
      have HX5 := asv (HX9.out.below hb8)
      have HB8 := asv (HB9.out.trans (hb8.mono HB9.out.size))
      rw [HYL.out] at own8
      have HO8 := asv own8
      clear d0 d1 d2 d3 d4 d5 d6 d7 d8 d9 d10 d11 d12 z0 z1 z2 z3 z4 z5 z6 z7 z8 z9 z10 own8 hb8
      go_wp2_with ((with_reducible refine wpList_stO w.heap.size (C.sail y A) (C.sail (P.setB y (y.bks.set k (P.goneB zb zb.fol))) ⟨A.v, A.lo, A.bo, A.lc, A.bc, some ⟨G, 0, none⟩, cap'⟩) ?_ ?_ ?_ HX5.out ?_ ?_ ?_); exact Tryz.sizeSail; rfl; rfl; rfl; exact sail_one _ _; intro w10 hr10 hg10; have HR10 := asv hr10; have HG10 := asv hg10; clear hr10 hg10)
      have HRA : Aside (SRow w10 w.heap.size (P.setB (P.onDay x d) (((x.bks.take k).map (P.turnB (P.onDay x d)) ++ x.bks.drop k).set k (P.dropB (P.onDay x d) zb))) ⟨a.v, a.lo, a.bo, a.lc, a.bc, some ⟨G, 0, none⟩, cap'⟩) := by
        show SRow _ _ _ _
        have := HR10.out
        rw [HSE.out, ← HAE.out] at this
        rw [HDB.out]
        exact this
      have HNX := asv (TurSt.next (n0 := w0.heap.size) (w := w) (x := P.onDay x d) (a := a) (k := k) (G := G) (cap' := cap') hn0 HST.out (show (P.onDay x d).bks[k]? = some zb from HBG.out) HL.out HV1.out HV2.out HV3.out HBB.out HO3.out HG3.out HOR.out HB8.out (by rw [HDB.out]; exact OwnC.ahead HO8.out HB9.out.size) (.inl ⟨rfl, rfl, by rw [HDB.out]; rfl⟩) HG10.out HRA.out)
      go_roundg (x.bks.length - (k + 1))
      case measure => omega
      case rel => exact ⟨k + 1, _, by omega, rfl, rfl, by go_num, HNX⟩


end Go.Proofs.YtlamhfbdeinkkaeGreat.St
