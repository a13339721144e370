/- Package voyage: the literal of turn. -/
import Derived.Test.YtlamhfbdeinkkaeGreatVyBt
import Derived.Test.YtlamhfbdeinkkaeGreatVyDt
import Derived.Test.YtlamhfbdeinkkaeGreatStXt
namespace Go.Proofs.YtlamhfbdeinkkaeGreat.St
open Go.RowKit Bk
set_option linter.unusedSimpArgs false
set_option linter.unusedVariables false
set_option maxRecDepth 10000

/-- Where a booking's entries lie: above G, and not where the numbers do. -/
def EntOk (G : Nat) (r : Option Nat) (w : World) (y : BkV) : Prop := Fo.EntsAt w y.2.1 y.2.2 y.1.fol ∧ ∀ b o, y.2.1 = some ⟨b, o, none⟩ → 0 < y.1.fol.length → G < b ∧ b < w.heap.size ∧ some b ≠ r
theorem EntOk.below {G : Nat} {r : Option Nat} {w w' : World} {y : BkV} (h : EntOk G r w y) (hb : Below w.heap.size w w') : EntOk G r w' y :=
  ⟨SlAt.below Fo.REnt.mono h.1 hb, fun b o e hl => by have := h.2 b o e hl; have := hb.size; exact ⟨by omega, by omega, (h.2 b o e hl).2.2⟩⟩
theorem EntOk.gr {G g : Nat} {r : Option Nat} {w w' : World} {y : BkV} (h : EntOk G r w y) (hg : w.grownBy w' (some g)) (h1 : g ≤ G) : EntOk G r w' y :=
  ⟨ents_on h.1 fun b o e hl => by have h2 := h.2 b o e hl; have := hg.size; exact ⟨by omega, hg.block b h2.2.1 (by simp; omega)⟩, fun b o e hl => by have h2 := h.2 b o e hl; have := hg.size; exact ⟨h2.1, by omega, h2.2.2⟩⟩
theorem EntOk.app {G : Nat} {r r' : Option Nat} {w w' : World} {y : BkV} (h : EntOk G r w y) (hg : w.grownBy w' r) (h1 : r' = r ∨ ∃ H, r' = some H ∧ w.heap.size ≤ H) : EntOk G r' w' y :=
  ⟨ents_on h.1 fun b o e hl => by have h2 := h.2 b o e hl; have := hg.size; exact ⟨by omega, hg.block b h2.2.1 h2.2.2⟩, fun b o e hl => by
    have h2 := h.2 b o e hl
    have := hg.size
    refine ⟨h2.1, by omega, ?_⟩
    rcases h1 with rfl | ⟨H, rfl, hH⟩
    · exact h2.2.2
    · intro er
      have := Option.some.inj er
      omega⟩
theorem EntOk.fresh {G : Nat} {w : World} {y : BkV} (h : Fo.OwnN w (G + 1) (.slice y.2.1 y.1.fol.length y.2.2) y.1.fol) : EntOk G none w y :=
  ⟨ents_own h, fun b o e hl => by
    have hown : (Value.slice y.2.1 y.1.fol.length y.2.2).ownBlock = some b := by
      rcases h.2 with ⟨h2, _⟩ | ⟨g, cap, cur, hv, _⟩
      · rw [e] at h2
        simp at h2
      · rw [hv]
        simp only [Value.slice.injEq] at hv
        rw [e] at hv
        have := hv.1
        simp only [Option.some.injEq, Addr.mk.injEq, and_true] at this
        rw [this.1]
        rfl
    have := h.lt _ hown
    exact ⟨by omega, this.2, by simp⟩⟩

/-- Where turn's literal stands when k bookings were looked at. -/
structure TurnSt (V0 : World) (m G I hd pd pp base : Nat) (x : Sail) (a a0 : SailA) (k : Nat) (wr : World) : Prop where
  lv : ∃ lv v, RowIs wr I #[v] ∧ OwnJ wr base v (P.lateI x.day (x.bks.take k)) ∧ OwnB wr m (.slice (some ⟨G, 0, none⟩) x.bks.length x.bks.length) lv ∧ lv.map (·.1) = (x.bks.take k).map (P.turnB x) ++ x.bks.drop k ∧ ∀ y ∈ lv, EntOk G v.ownBlock wr y
  hd : SRow wr hd x a
  day : RowIs wr pd #[.int .i64 x.day]
  pur : SRow wr pp x a0
  sp : Spare m I V0 wr
  sz : V0.heap.size ≤ wr.heap.size
theorem TurnSt.below {V0 : World} {m G I hd pd pp base : Nat} {x : Sail} {a a0 : SailA} {k : Nat} {wr wr' : World} (h : TurnSt V0 m G I hd pd pp base x a a0 k wr) (hb : Below wr.heap.size wr wr') (hm : m ≤ V0.heap.size) : TurnSt V0 m G I hd pd pp base x a a0 k wr' := by
  obtain ⟨lv, v, h1, h2, h3, h4, h5⟩ := h.lv
  have := h.sz
  have := hb.size
  exact ⟨⟨lv, v, h1.below hb, OwnC.below h2 hb, OwnC.below h3 hb, h4, fun y hy => (h5 y hy).below hb⟩, h.hd.below hb, h.day.below hb, h.pur.below hb, h.sp.trans (Spare.ofBelow (hb.mono (by omega))), by omega⟩
theorem TurnSt.skip {V0 : World} {m G I hd pd pp base : Nat} {x : Sail} {a a0 : SailA} {k : Nat} {b : Bkg} {wr : World} (h : TurnSt V0 m G I hd pd pp base x a a0 k wr) (hk : x.bks[k]? = some b) (hl : P.late x.day b = false) : TurnSt V0 m G I hd pd pp base x a a0 (k + 1) wr := by
  obtain ⟨lv, v, h1, h2, h3, h4, h5⟩ := h.lv
  obtain ⟨hkl, e⟩ := List.getElem?_eq_some_iff.1 hk
  have et : x.bks.take (k + 1) = x.bks.take k ++ [b] := by rw [List.take_succ_eq_append_getElem hkl, e]
  have ei : P.lateI x.day (x.bks.take (k + 1)) = P.lateI x.day (x.bks.take k) := by rw [et, lateI_snoc, hl]; simp
  have eb : P.turnB x b = b := by rw [P.turnB, hl]; rfl
  have em : (x.bks.take (k + 1)).map (P.turnB x) ++ x.bks.drop (k + 1) = (x.bks.take k).map (P.turnB x) ++ x.bks.drop k := by
    rw [map_step hk, eb]
    obtain ⟨c1, c2⟩ := List.getElem?_eq_some_iff.1 (map_at (f := P.turnB x) hk)
    conv => lhs; rw [← c2]
    exact List.set_getElem_self c1
  exact ⟨⟨lv, v, h1, by rw [ei]; exact h2, h3, by rw [em]; exact h4, h5⟩, h.hd, h.day, h.pur, h.sp, h.sz⟩
theorem TurnSt.get {V0 : World} {m G I hd pd pp base : Nat} {x : Sail} {a a0 : SailA} {k : Nat} {b : Bkg} {wr : World} (h : TurnSt V0 m G I hd pd pp base x a a0 k wr) (hk : x.bks[k]? = some b) : ∃ lv v fo fc, RowIs wr I #[v] ∧ OwnJ wr base v (P.lateI x.day (x.bks.take k)) ∧ OwnB wr m (.slice (some ⟨G, 0, none⟩) x.bks.length x.bks.length) lv ∧ lv.map (·.1) = (x.bks.take k).map (P.turnB x) ++ x.bks.drop k ∧ (∀ y ∈ lv, EntOk G v.ownBlock wr y) ∧ lv[k]? = some (b, fo, fc) ∧ lv.length = x.bks.length := by
  obtain ⟨lv, v, h1, h2, h3, h4, h5⟩ := h.lv
  have hl : lv.length = x.bks.length := by
    have := congrArg List.length h4
    simp at this
    omega
  have hkl := (List.getElem?_eq_some_iff.1 hk).1
  obtain ⟨z, hz⟩ : ∃ z, lv[k]? = some z := ⟨lv[k]'(by omega), List.getElem?_eq_getElem (by omega)⟩
  have hzb : z.1 = b := by
    have h6 : (lv.map (·.1))[k]? = some z.1 := by rw [List.getElem?_map, hz]; rfl
    rw [h4, map_at hk] at h6
    exact (Option.some.inj h6).symm
  obtain ⟨zb, fo, fc⟩ := z
  have hzb : zb = b := hzb
  subst hzb
  exact ⟨lv, v, fo, fc, h1, h2, h3, h4, h5, hz, hl⟩

theorem Spare.gro {n I : Nat} {row : Option Nat} {w w' : World} (h : w.grownBy w' row) (hn : n ≤ w.heap.size) (hr : ∀ r, row = some r → r = I ∨ n ≤ r) : Spare n I w w' :=
  ⟨h.os, h.tape, h.output, h.size, fun k h1 h2 => h.block k (by omega) (fun e => by have := hr k e.symm; omega)⟩
theorem wp_stE {o : Oper} {act : Act} {K : Act → World → Prop} {Q : Exit → Act → World → Prop} {w : World} (ty : TypeId) (x y : Operand) (ho : o.op = .store ty x y) (G k n cap base : Nat) (lv : List BkV) (z : BkV) (hty : (Tryz.prog.info? ty).map (·.size) = some 11) (hx : act.eval x = .pointer (some ⟨G, k * 11, none⟩)) (hy : act.eval y = .agg (cellsV z).toArray) (hO : OwnB w base (.slice (some ⟨G, 0, none⟩) n cap) lv) (hn : lv.length = n) (hk : k < n)
    (h : ∀ w', OwnB w' base (.slice (some ⟨G, 0, none⟩) n cap) (lv.set k z) → w.grownBy w' (some G) → K (act.put o.dst undef) w') : o.wp Tryz.prog act w K Q := by
  have hl : (cellsV z).toArray.size = 11 := by rw [List.size_toArray]; exact cellsV_len z
  subst hn
  have hp := own_put cellsV_len cellsV_one hO k z hk
  rw [List.length_set] at hp
  refine wp_store_mid ty x y ho G (k * 11) (cellsV z).toArray hx hy (by rw [hl]; exact own_there hO rfl hk) (by rw [hl]; exact hty) (all_oneCell_toArray (cellsV_one z)) ?_
  exact h _ hp.1 hp.2

/-- One more option is gone. -/
theorem turn_next {V0 : World} {m G I hd pd pp : Nat} {x : Sail} {a a0 : SailA} {k : Nat} {b : Bkg} {wB w5 w9 w3 : World} {lk : List BkV} {v v3 : Value} {fo fo' : Option Addr} {fc fc' : Nat} (h : TurnSt V0 m G I hd pd pp (hd + 1) x a a0 k wB) (hk : x.bks[k]? = some b) (hl : P.late x.day b = true) (hm : m ≤ V0.heap.size) (hmG : m ≤ G) (hG : G < hd) (hI : I < m) (hpd : pd < m) (hpp : pp < m) (hdI : pd ≠ I) (hpI : pp ≠ I)
    (hv1 : RowIs wB I #[v]) (hv2 : OwnJ wB (hd + 1) v (P.lateI x.day (x.bks.take k))) (hv4 : lk.map (·.1) = (x.bks.take k).map (P.turnB x) ++ x.bks.drop k) (hv5 : ∀ y ∈ lk, EntOk G v.ownBlock wB y) (hv6 : lk[k]? = some (b, fo, fc))
    (hb5 : Below wB.heap.size wB w5) (hen : (fo' = fo ∧ fc' = fc ∧ (P.dropB x b).fol = b.fol) ∨ (Fo.EntsAt w5 fo' fc' (P.dropB x b).fol ∧ ∀ b1 o1, fo' = some ⟨b1, o1, none⟩ → 0 < (P.dropB x b).fol.length → wB.heap.size ≤ b1 ∧ b1 < w5.heap.size))
    (own9 : OwnB w9 m (.slice (some ⟨G, 0, none⟩) x.bks.length x.bks.length) (lk.set k (P.dropB x b, fo', fc'))) (gr9 : w5.grownBy w9 (some G)) (own3 : OwnJ w3 (hd + 1) v3 (P.lateI x.day (x.bks.take k) ++ [b.id])) (gr3 : w9.grownBy w3 v.ownBlock) (hor : v3.ownBlock = v.ownBlock ∨ v3.ownBlock = some (w9.heap.size + 1)) :
    TurnSt V0 m G I hd pd pp (hd + 1) x a a0 (k + 1) (w3.setCell ⟨I, 0, none⟩ v3) := by
  have gI := grown_st w3 I 0 v3
  have hsB := h.sz
  have hs5 := hb5.size
  have hs9 := gr9.size
  have hs3 := gr3.size
  have hsI := gI.size
  have hhd := h.hd.lt
  obtain ⟨hkl, e⟩ := List.getElem?_eq_some_iff.1 hk
  have et : x.bks.take (k + 1) = x.bks.take k ++ [b] := by rw [List.take_succ_eq_append_getElem hkl, e]
  have ei : P.lateI x.day (x.bks.take (k + 1)) = P.lateI x.day (x.bks.take k) ++ [b.id] := by rw [et, lateI_snoc, hl]; rfl
  have eb : P.turnB x b = P.dropB x b := by rw [P.turnB, if_pos hl]
  have hvr : ∀ r, v.ownBlock = some r → hd + 1 ≤ r ∧ r < wB.heap.size := fun r hr => hv2.lt r hr
  have row : ∀ {g : Nat} {cs : Array Value}, RowIs wB g cs → g ≠ G → g < hd + 1 → g ≠ I → RowIs (w3.setCell ⟨I, 0, none⟩ v3) g cs := fun hr h1 h2 h3 =>
    (((hr.below hb5).gr gr9 (by simp; exact h1)).gr gr3 (OwnC.far hv2 h2)).gr gI (by simp; exact h3)
  have hr3 : RowIs w3 I #[v] := ((hv1.below hb5).gr gr9 (by simp; omega)).gr gr3 (OwnC.far hv2 (by omega))
  refine ⟨⟨lk.set k (P.dropB x b, fo', fc'), v3, ?_, ?_, ?_, ?_, fun y hy => ?_⟩, row h.hd (by omega) (by omega) (by omega), row h.day (by omega) (by omega) hdI, row h.pur (by omega) (by omega) hpI, ?_, by omega⟩
  · exact hr3.set (k := 0) v3
  · rw [ei]
    exact OwnC.apart own3 gI (fun r hr hv => by cases hr; have := (own3.lt _ hv).1; omega)
  · have h1 := OwnC.apart own9 gr3 (fun r hr hv => by
      have h2 := hvr r hr
      have h3 : some G = some r := hv
      simp only [Option.some.injEq] at h3
      omega)
    exact OwnC.apart h1 gI (fun r hr hv => by
      cases hr
      have h3 : some G = some I := hv
      simp only [Option.some.injEq] at h3
      omega)
  · rw [List.map_set, hv4, map_step hk, eb]
  · have h5 : EntOk G v.ownBlock w5 y := by
      rcases List.mem_or_eq_of_mem_set hy with hy | rfl
      · exact (hv5 y hy).below hb5
      · rcases hen with ⟨rfl, rfl, e3⟩ | ⟨e1, e2⟩
        · have h6 := (hv5 _ (List.mem_of_getElem? hv6)).below hb5
          refine ⟨?_, fun b1 o1 e4 hl1 => h6.2 b1 o1 e4 ?_⟩
          · show Fo.EntsAt w5 fo' fc' (P.dropB x b).fol
            rw [e3]
            exact h6.1
          · have hl1 : 0 < (P.dropB x b).fol.length := hl1
            rw [e3] at hl1
            exact hl1
        · refine ⟨e1, fun b1 o1 e4 hl1 => ?_⟩
          obtain ⟨g1, g2⟩ := e2 b1 o1 e4 hl1
          refine ⟨by omega, g2, fun er => ?_⟩
          have := hvr b1 er.symm
          omega
    have h9 := h5.gr gr9 (Nat.le_refl _)
    have h3 : EntOk G v3.ownBlock w3 y := h9.app gr3 (by
      rcases hor with h1 | h1
      · exact .inl h1
      · exact .inr ⟨_, h1, by omega⟩)
    exact h3.gr gI (by omega)
  · refine h.sp.trans ((Spare.ofBelow (hb5.mono (by omega))).trans ((Spare.gro gr9 (by omega) (fun r hr => by cases hr; omega)).trans ((Spare.gro gr3 (by omega) (fun r hr => by have := hvr r hr; omega)).trans (Spare.gro gI (by omega) (fun r hr => by cases hr; omega)))))
/-- Behind the last booking. -/
theorem turn1_fin {p : Nat} {x : Sail} {a a0 : SailA} {w w1 V0 wr : World} {N m G I pd pp : Nat} {lv : List BkV} (hF : Fresh w1 N m G x a lv) (h : TurnSt V0 m G I w1.heap.size pd pp (w1.heap.size + 1) x a a0 x.bks.length wr) (hW : W.sail w1 x a = V0) (hI : I < w.heap.size) (hN : w.heap.size ≤ N) :
    SRow wr w1.heap.size (P.turnS x) a ∧ (∀ U, Gap p w.heap.size N wr U → SailAt U (P.turnS x) a) ∧ Spare m I V0 wr ∧ IdsAt wr I m (P.lateI x.day x.bks) := by
  subst hW
  have hG := hF.lt
  have hnm := hF.nm
  have hmG := hF.mG
  have hsz : (W.sail w1 x a).heap.size = w1.heap.size + 1 := by simp
  have hbs := sail_below w1 x a
  obtain ⟨lk, v, h1, h2, h3, h4, h5⟩ := h.lv
  rw [List.take_length] at h2 h4
  rw [List.drop_length, List.append_nil] at h4
  have hss := h.sz
  refine ⟨?_, fun U hU => ?_, h.sp, ⟨v, h1, OwnC.ahead h2 (by omega)⟩⟩
  · have e := setB_cells (x := x) (a := a) (l := x.bks.map (P.turnB x)) (by simp)
    obtain ⟨t, ht⟩ := h.hd
    exact ⟨t, by rw [ht]; show some (Obj.cells (C.sail x a) t (0, 0)) = some (Obj.cells (C.sail (P.setB x (x.bks.map (P.turnB x))) a) t (0, 0)); rw [← e]⟩
  · have hUz := hU.1
    obtain ⟨s1, s2⟩ := hF.low U (by omega) (fun c g1 g2 => by
      rw [hU.2 c (.inr g1) (by omega), h.sp.block c g2 (by omega), hbs.block c (by omega)])
    refine ⟨s1, s2, ?_⟩
    have hOU := OwnC.up h3 (w' := U) ⟨hUz, fun c g1 g2 => hU.2 c (.inr (by omega)) g2⟩
    have hent : ∀ y ∈ lk, Fo.EntsAt U y.2.1 y.2.2 y.1.fol := fun y hy => ents_on (h5 y hy).1 fun b o e hl => by
      have g := (h5 y hy).2 b o e hl
      exact ⟨by omega, hU.2 b (.inr (by omega)) g.2.1⟩
    have := BkVsAt.all (bkvs_of (own_at cellsV_len hOU) hent)
    rw [h4] at this
    rw [← hF.ao, ← hF.cap] at this
    exact this

set_option maxHeartbeats 16000000 in
theorem turn1_how (p : Nat) (x : Sail) (a0 : SailA) (w0 w : World) (pd pp I : Nat) (hs0 : SailAt w0 x a0) (hb0 : Below w0.heap.size w0 w) (hI : w0.heap.size ≤ I) (hIw : I < w.heap.size) (hpd : pd < w.heap.size) (hpp : pp < w.heap.size) (hd0 : RowIs w pd #[.int .i64 x.day]) (hp0 : SRow w pp x a0) (hdI : pd ≠ I) (hpI : pp ≠ I) (hi0 : RowIs w I #[.slice none 0 0]) (hE : P.SailE x 0) :
    HowIds p w x 138 #[.pointer (some ⟨pd, 0, none⟩), .pointer (some ⟨pp, 0, none⟩), .pointer (some ⟨I, 0, none⟩)] I (P.turnS x) (P.lateI x.day x.bks) := by
  intro w1 N m G a lv hB1 hN hF
  show Calls Tryz.prog 138 #[.pointer (some ⟨w1.heap.size, 0, none⟩), .pointer (some ⟨pd, 0, none⟩), .pointer (some ⟨pp, 0, none⟩), .pointer (some ⟨I, 0, none⟩)] (W.sail w1 x a) _
  have hsz : (W.sail w1 x a).heap.size = w1.heap.size + 1 := by simp
  have hw1 := hB1.size
  have hGl := hF.lt
  have hnm := hF.nm
  have hmG := hF.mG
  have h16 : x.bks.length ≤ 16 := (sail_ok hE).2.2.2.2.1
  have hbs := sail_below w1 x a
  have hBs := bvia hB1 hbs
  have HST : Aside (TurnSt (W.sail w1 x a) m G I w1.heap.size pd pp (w1.heap.size + 1) x a a0 0 (W.sail w1 x a)) := by
    refine ⟨⟨lv, .slice none 0 0, hi0.below hBs, OwnC.nil _ _, OwnC.below hF.own hbs, by rw [hF.map]; rfl, fun y hy => (EntOk.fresh (OwnC.below (hF.ent y hy) hbs))⟩, RowIs.new w1 _ _, hd0.below hBs, hp0.below hBs, ⟨rfl, rfl, rfl, Nat.le_refl _, fun _ _ _ => rfl⟩, Nat.le_refl _⟩
  have HFR : Aside (Fresh w1 N m G x a lv) := hF
  have HE : Aside (P.SailE x 0) := hE
  have HS0 : Aside (SailAt w0 x a0) := hs0
  have HB0 : Aside (Below w0.heap.size w0 (W.sail w1 x a)) := bvia hb0 hBs
  have HAO : Aside (a.ao = some ⟨G, 0, none⟩ ∧ a.cap = x.bks.length) := ⟨hF.ao, hF.cap⟩
  have HW0 : Aside (w0.heap.size ≤ w.heap.size) := hb0.size
  have d11 : (W.sail w1 x a).cell? ⟨w1.heap.size, 11, none⟩ = some (.slice (some ⟨G, 0, none⟩) x.bks.length x.bks.length) := by
    have := HST.out.hd.cell 11
    rw [show (C.sail x a)[11]? = some (.slice a.ao x.bks.length a.cap) from rfl, hF.ao, hF.cap] at this
    exact this
  clear hF hE hs0 hb0 hBs hbs hd0 hp0 hi0 hB1
  go_enter Tryz.func138, Tryz.ntmps138
  go_wp2
  clear d11
  generalize hW : W.sail w1 x a = W0 at HST HB0 hsz ⊢
  have HWE : Aside (W.sail w1 x a = W0) := hW
  clear hW
  go_loopg [13] x.bks.length (fun q iv wr => ∃ k : Nat, k ≤ x.bks.length ∧ q = x.bks.length - k ∧ iv = .int .i64 k ∧ Aside (TurnSt W0 m G I w1.heap.size pd pp (w1.heap.size + 1) x a a0 k wr))
  case atStart => exact ⟨0, Nat.zero_le _, rfl, rfl, HST⟩
  case round =>
    clear HST
    obtain ⟨k, hk, rfl, rfl, HST⟩ := hrel
    by_cases hlt : k < x.bks.length
    rotate_left
    · obtain rfl : k = x.bks.length := by omega
      go_wp2
      go_ret
      have hf := turn1_fin (p := p) HFR.out HST.out HWE.out hIw hN
      rw [← HWE.out] at hf
      exact ⟨rfl, a, hf⟩
    have hlt2 : (k : Int) < x.bks.length := by omega
    have hwr : w1.heap.size < wr.heap.size := HST.out.hd.lt
    obtain ⟨b, hb⟩ : ∃ b, x.bks[k]? = some b := ⟨x.bks[k], List.getElem?_eq_getElem hlt⟩
    have HBK : Aside (x.bks[k]? = some b) := hb
    obtain ⟨lk, v, fo, fc, hv1, hv2, hv3, hv4, hv5, hv6, hv7⟩ := HST.out.get hb
    have q0 : wr.cell? ⟨G, k * 11, none⟩ = some (.int .i64 b.id) := (own_cell hv3 hv7 hv6 0 (by decide)).1
    have q1 : wr.cell? ⟨G, k * 11 + 1, none⟩ = some (.int .i64 b.kind) := (own_cell hv3 hv7 hv6 1 (by decide)).1
    have q2 : wr.cell? ⟨G, k * 11 + 2, none⟩ = some (.int .i64 b.state) := (own_cell hv3 hv7 hv6 2 (by decide)).1
    have q3 : wr.cell? ⟨G, k * 11 + 3, none⟩ = some (.int .i64 b.guests) := (own_cell hv3 hv7 hv6 3 (by decide)).1
    have q4 : wr.cell? ⟨G, k * 11 + 4, none⟩ = some (.bool b.level) := (own_cell hv3 hv7 hv6 4 (by decide)).1
    have q5 : wr.cell? ⟨G, k * 11 + 5, none⟩ = some (.int .i64 b.cabin) := (own_cell hv3 hv7 hv6 5 (by decide)).1
    have q6 : wr.cell? ⟨G, k * 11 + 6, none⟩ = some (.int .i64 b.cat) := (own_cell hv3 hv7 hv6 6 (by decide)).1
    have q7 : wr.cell? ⟨G, k * 11 + 7, none⟩ = some (.int .i64 b.frm) := (own_cell hv3 hv7 hv6 7 (by decide)).1
    have q8 : wr.cell? ⟨G, k * 11 + 8, none⟩ = some (.int .i64 b.to) := (own_cell hv3 hv7 hv6 8 (by decide)).1
    have q9 : wr.cell? ⟨G, k * 11 + 9, none⟩ = some (.int .i64 b.til) := (own_cell hv3 hv7 hv6 9 (by decide)).1
    have q10 : wr.cell? ⟨G, k * 11 + 10, none⟩ = some (.slice fo b.fol.length fc) := (own_cell hv3 hv7 hv6 10 (by decide)).1
    have HV1 : Aside (RowIs wr I #[v]) := hv1
    have HV2 : Aside (OwnJ wr (w1.heap.size + 1) v (P.lateI x.day (x.bks.take k))) := hv2
    have HV3 : Aside (OwnB wr m (.slice (some ⟨G, 0, none⟩) x.bks.length x.bks.length) lk) := hv3
    have HV4 : Aside (lk.map (·.1) = (x.bks.take k).map (P.turnB x) ++ x.bks.drop k) := hv4
    have HV5 : Aside (∀ y ∈ lk, EntOk G v.ownBlock wr y) := hv5
    have HV6 : Aside (lk[k]? = some (b, fo, fc)) := hv6
    have HV7 : Aside (lk.length = x.bks.length) := hv7
    clear hb hv1 hv2 hv3 hv4 hv5 hv6 hv7
    go_upto_region 4 with (fail)
    clear q0 q1 q2 q3 q4 q5 q6 q7 q8 q9 q10
    change Code.wp Tryz.prog _ _ _ (W.bk wr b fo fc)
    have HBX : Aside (RowIs (W.bk wr b fo fc) wr.heap.size (C.bk b fo fc)) := RowIs.new wr _ _
    have HSN : Aside (TurnSt W0 m G I w1.heap.size pd pp (w1.heap.size + 1) x a a0 k (W.bk wr b fo fc)) := HST.out.below (bk_below wr b fo fc) (by omega)
    have hbw := bk_below wr b fo fc
    replace HV1 : Aside (RowIs (W.bk wr b fo fc) I #[v]) := HV1.out.below hbw
    replace HV2 : Aside (OwnJ (W.bk wr b fo fc) (w1.heap.size + 1) v (P.lateI x.day (x.bks.take k))) := OwnC.below HV2.out hbw
    replace HV3 : Aside (OwnB (W.bk wr b fo fc) m (.slice (some ⟨G, 0, none⟩) x.bks.length x.bks.length) lk) := OwnC.below HV3.out hbw
    replace HV5 : Aside (∀ y ∈ lk, EntOk G v.ownBlock (W.bk wr b fo fc) y) := fun y hy => (HV5.out y hy).below hbw
    clear HST hbw
    generalize W.bk wr b fo fc = wB at HBX HSN HV1 HV2 HV3 HV5 ⊢
    obtain ⟨z0, z1, z2, z3, z4, z5, z6, z7, z8, z9, z10⟩ := HBX.out.bbox
    have y0 : wB.cell? ⟨pd, 0, none⟩ = some (.int .i64 x.day) := HSN.out.day.cell 0
    cases hL : P.late x.day b
    · have HL : Aside (P.late x.day b = false) := hL
      by_cases hst : b.state = 1
      · have hti : ¬ b.til < x.day := by simpa [P.late, hst] using hL
        have hti' : x.day ≤ b.til := by omega
        have hst' : (b.state == 1) = true := by simp [hst]
        clear hst hL
        go_wp2
        go_roundg (x.bks.length - (k + 1))
        case measure => omega
        case rel => exact ⟨k + 1, by omega, rfl, by go_num, HSN.out.skip HBK.out HL.out⟩
      · have hst' : (b.state == 1) = false := by simp [hst]
        clear hst hL
        go_wp2
        go_roundg (x.bks.length - (k + 1))
        case measure => omega
        case rel => exact ⟨k + 1, by omega, rfl, by go_num, HSN.out.skip HBK.out HL.out⟩
    obtain ⟨hst, hti⟩ := late_opt hL
    have HL : Aside (P.late x.day b = true) := hL
    have HST1 : Aside (b.state = 1) := hst
    have hst' : (b.state == 1) = true := by simp [hst]
    clear hL hst
    go_upto_region 5 with (fail)
    clear hti hst' y0
    have HSA : Aside (SailAt wB x a0) := HS0.out.below (HB0.out.trans (HSN.out.sp.below hI (by have := HW0.out; omega)))
    have d11 : wB.cell? ⟨w1.heap.size, 11, none⟩ = some (.slice (some ⟨G, 0, none⟩) x.bks.length x.bks.length) := by
      have := HSN.out.hd.cell 11
      rw [show (C.sail x a)[11]? = some (.slice a.ao x.bks.length a.cap) from rfl, HAO.out.1, HAO.out.2] at this
      exact this
    have p0 : wB.cell? ⟨pp, 0, none⟩ = some (.int .i64 x.s.legs) := HSN.out.pur.cell 0
    have p1 : wB.cell? ⟨pp, 1, none⟩ = some (.int .i64 x.s.souls) := HSN.out.pur.cell 1
    have p2 : wB.cell? ⟨pp, 2, none⟩ = some (.slice a0.v.cao x.s.cs.length a0.v.cc) := HSN.out.pur.cell 2
    have p3 : wB.cell? ⟨pp, 3, none⟩ = some (.slice a0.v.bao x.s.bs.length a0.v.bc) := HSN.out.pur.cell 3
    have p4 : wB.cell? ⟨pp, 4, none⟩ = some (.slice a0.lo x.L.length a0.lc) := HSN.out.pur.cell 4
    have p5 : wB.cell? ⟨pp, 5, none⟩ = some (.int .i64 x.al) := HSN.out.pur.cell 5
    have p6 : wB.cell? ⟨pp, 6, none⟩ = some (.int .i64 x.th) := HSN.out.pur.cell 6
    have p7 : wB.cell? ⟨pp, 7, none⟩ = some (.slice a0.bo x.B.length a0.bc) := HSN.out.pur.cell 7
    have p8 : wB.cell? ⟨pp, 8, none⟩ = some (.int .i64 x.dn) := HSN.out.pur.cell 8
    have p9 : wB.cell? ⟨pp, 9, none⟩ = some (.int .i64 x.day) := HSN.out.pur.cell 9
    have p10 : wB.cell? ⟨pp, 10, none⟩ = some (.int .i64 x.lvs) := HSN.out.pur.cell 10
    have p11 : wB.cell? ⟨pp, 11, none⟩ = some (.slice a0.ao x.bks.length a0.cap) := HSN.out.pur.cell 11
    have p12 : wB.cell? ⟨pp, 12, none⟩ = some (.bool x.cl) := HSN.out.pur.cell 12
    refine wp_region_before (L := 9) (S := fun u : World => u.cell? ⟨w1.heap.size, 11, none⟩ = some (.slice (some ⟨G, 0, none⟩) x.bks.length x.bks.length) ∧ u.cell? ⟨pp, 0, none⟩ = some (.int .i64 x.s.legs) ∧ u.cell? ⟨pp, 1, none⟩ = some (.int .i64 x.s.souls) ∧ u.cell? ⟨pp, 2, none⟩ = some (.slice a0.v.cao x.s.cs.length a0.v.cc) ∧ u.cell? ⟨pp, 3, none⟩ = some (.slice a0.v.bao x.s.bs.length a0.v.bc) ∧ u.cell? ⟨pp, 4, none⟩ = some (.slice a0.lo x.L.length a0.lc) ∧ u.cell? ⟨pp, 5, none⟩ = some (.int .i64 x.al) ∧ u.cell? ⟨pp, 6, none⟩ = some (.int .i64 x.th) ∧ u.cell? ⟨pp, 7, none⟩ = some (.slice a0.bo x.B.length a0.bc) ∧ u.cell? ⟨pp, 8, none⟩ = some (.int .i64 x.dn) ∧ u.cell? ⟨pp, 9, none⟩ = some (.int .i64 x.day) ∧ u.cell? ⟨pp, 10, none⟩ = some (.int .i64 x.lvs) ∧ u.cell? ⟨pp, 11, none⟩ = some (.slice a0.ao x.bks.length a0.cap) ∧ u.cell? ⟨pp, 12, none⟩ = some (.bool x.cl) ∧ u.cell? ⟨wr.heap.size, 0, none⟩ = some (.int .i64 b.id) ∧ u.cell? ⟨wr.heap.size, 1, none⟩ = some (.int .i64 b.kind) ∧ u.cell? ⟨wr.heap.size, 2, none⟩ = some (.int .i64 b.state) ∧ u.cell? ⟨wr.heap.size, 3, none⟩ = some (.int .i64 b.guests) ∧ u.cell? ⟨wr.heap.size, 4, none⟩ = some (.bool b.level) ∧ u.cell? ⟨wr.heap.size, 5, none⟩ = some (.int .i64 b.cabin) ∧ u.cell? ⟨wr.heap.size, 6, none⟩ = some (.int .i64 b.cat) ∧ u.cell? ⟨wr.heap.size, 7, none⟩ = some (.int .i64 b.frm) ∧ u.cell? ⟨wr.heap.size, 8, none⟩ = some (.int .i64 b.to) ∧ u.cell? ⟨wr.heap.size, 9, none⟩ = some (.int .i64 b.til) ∧ u.cell? ⟨wr.heap.size, 10, none⟩ = some (.slice fo b.fol.length fc)) (by kernel_rfl) (fun hset => ?_)
    have hS : (fun u : World => u.cell? ⟨w1.heap.size, 11, none⟩ = some (.slice (some ⟨G, 0, none⟩) x.bks.length x.bks.length) ∧ u.cell? ⟨pp, 0, none⟩ = some (.int .i64 x.s.legs) ∧ u.cell? ⟨pp, 1, none⟩ = some (.int .i64 x.s.souls) ∧ u.cell? ⟨pp, 2, none⟩ = some (.slice a0.v.cao x.s.cs.length a0.v.cc) ∧ u.cell? ⟨pp, 3, none⟩ = some (.slice a0.v.bao x.s.bs.length a0.v.bc) ∧ u.cell? ⟨pp, 4, none⟩ = some (.slice a0.lo x.L.length a0.lc) ∧ u.cell? ⟨pp, 5, none⟩ = some (.int .i64 x.al) ∧ u.cell? ⟨pp, 6, none⟩ = some (.int .i64 x.th) ∧ u.cell? ⟨pp, 7, none⟩ = some (.slice a0.bo x.B.length a0.bc) ∧ u.cell? ⟨pp, 8, none⟩ = some (.int .i64 x.dn) ∧ u.cell? ⟨pp, 9, none⟩ = some (.int .i64 x.day) ∧ u.cell? ⟨pp, 10, none⟩ = some (.int .i64 x.lvs) ∧ u.cell? ⟨pp, 11, none⟩ = some (.slice a0.ao x.bks.length a0.cap) ∧ u.cell? ⟨pp, 12, none⟩ = some (.bool x.cl) ∧ u.cell? ⟨wr.heap.size, 0, none⟩ = some (.int .i64 b.id) ∧ u.cell? ⟨wr.heap.size, 1, none⟩ = some (.int .i64 b.kind) ∧ u.cell? ⟨wr.heap.size, 2, none⟩ = some (.int .i64 b.state) ∧ u.cell? ⟨wr.heap.size, 3, none⟩ = some (.int .i64 b.guests) ∧ u.cell? ⟨wr.heap.size, 4, none⟩ = some (.bool b.level) ∧ u.cell? ⟨wr.heap.size, 5, none⟩ = some (.int .i64 b.cabin) ∧ u.cell? ⟨wr.heap.size, 6, none⟩ = some (.int .i64 b.cat) ∧ u.cell? ⟨wr.heap.size, 7, none⟩ = some (.int .i64 b.frm) ∧ u.cell? ⟨wr.heap.size, 8, none⟩ = some (.int .i64 b.to) ∧ u.cell? ⟨wr.heap.size, 9, none⟩ = some (.int .i64 b.til) ∧ u.cell? ⟨wr.heap.size, 10, none⟩ = some (.slice fo b.fol.length fc)) { wB with drawn := wB.drawn + 1 } := ⟨d11, p0, p1, p2, p3, p4, p5, p6, p7, p8, p9, p10, p11, p12, z0, z1, z2, z3, z4, z5, z6, z7, z8, z9, z10⟩
    refine wpAnyB_put0 (i := 0) (d := (some 27)) (v := ?_) hset rfl rfl (by kernel_rfl) (by kernel_rfl) (by kernel_rfl) (by decide) (fun _ _ _ h => h) (Or.inl ⟨by rfl, ?_⟩) (fun _ => hS) (fun hset => ?_)
    rotate_left
    · (intro w; go_simp; try with_reducible rfl)
    simp only [Act.put, List.setIfInBounds_toArray, List.set_cons_zero, List.set_cons_succ, List.getElem_toArray, List.getElem_cons_succ, List.getElem_cons_zero]
    refine wpAnyB_put0 (i := 1) (d := (some 28)) (v := ?_) hset rfl rfl (by kernel_rfl) (by kernel_rfl) (by kernel_rfl) (by decide) (fun _ _ _ h => h) (Or.inl ⟨by rfl, ?_⟩) (fun _ => hS) (fun hset => ?_)
    rotate_left
    · (intro w; go_simp; try with_reducible rfl)
    simp only [Act.put, List.setIfInBounds_toArray, List.set_cons_zero, List.set_cons_succ, List.getElem_toArray, List.getElem_cons_succ, List.getElem_cons_zero]
    refine wpAnyB_put0 (i := 2) (d := (some 29)) (v := ?_) hset rfl rfl (by kernel_rfl) (by kernel_rfl) (by kernel_rfl) (by decide) (fun _ _ _ h => h) (Or.inl ⟨by rfl, ?_⟩) (fun _ => hS) (fun hset => ?_)
    rotate_left
    · (intro w; go_simp; try with_reducible rfl)
    simp only [Act.put, List.setIfInBounds_toArray, List.set_cons_zero, List.set_cons_succ, List.getElem_toArray, List.getElem_cons_succ, List.getElem_cons_zero]
    refine wpAnyB_put (i := 3) (n := 40) (d := (some 30)) (v := ?_) hset rfl rfl (by kernel_rfl) (by kernel_rfl) (by kernel_rfl) (by kernel_rfl) (by decide) (fun _ _ _ h => h) (Or.inl ⟨by rfl, ?_⟩) hS (fun hset => ?_)
    rotate_left
    · (intro w hSw; (try dsimp only at hSw); go_simp; try with_reducible rfl)
    simp only [Act.put, List.setIfInBounds_toArray, List.set_cons_zero, List.set_cons_succ, List.getElem_toArray, List.getElem_cons_succ, List.getElem_cons_zero]
    refine wpAnyB_put0 (i := 4) (d := (some 31)) (v := ?_) hset rfl rfl (by kernel_rfl) (by kernel_rfl) (by kernel_rfl) (by decide) (fun _ _ _ h => h) (Or.inl ⟨by rfl, ?_⟩) (fun _ => hS) (fun hset => ?_)
    rotate_left
    · (intro w; go_simp; try with_reducible rfl)
    simp only [Act.put, List.setIfInBounds_toArray, List.set_cons_zero, List.set_cons_succ, List.getElem_toArray, List.getElem_cons_succ, List.getElem_cons_zero]
    refine wpAnyB_put (i := 5) (n := 40) (d := (some 32)) (v := ?_) hset rfl rfl (by kernel_rfl) (by kernel_rfl) (by kernel_rfl) (by kernel_rfl) (by decide) (fun _ _ _ h => h) (Or.inl ⟨by rfl, ?_⟩) hS (fun hset => ?_)
    rotate_left
    · (intro w hSw; (try dsimp only at hSw); go_simp; try with_reducible rfl)
    simp only [Act.put, List.setIfInBounds_toArray, List.set_cons_zero, List.set_cons_succ, List.getElem_toArray, List.getElem_cons_succ, List.getElem_cons_zero]
    refine wpAnyB_put (i := 6) (n := 40) (d := (some 33)) (v := ?_) hset rfl rfl (by kernel_rfl) (by kernel_rfl) (by kernel_rfl) (by kernel_rfl) (by decide) (fun _ _ _ h => h) (Or.inl ⟨by rfl, ?_⟩) hS (fun hset => ?_)
    rotate_left
    · (intro w hSw; (try dsimp only at hSw); go_simp; try with_reducible rfl)
    simp only [Act.put, List.setIfInBounds_toArray, List.set_cons_zero, List.set_cons_succ, List.getElem_toArray, List.getElem_cons_succ, List.getElem_cons_zero]
    refine wpAnyB_steps (rs := [7]) (by kernel_rfl) (by simp) ?_
    refine StepsB.ahead rfl hset (by kernel_rfl) (fun hset K hK => ?_) StepsB.nil
    simp only [List.getElem_toArray, List.getElem_cons_succ, List.getElem_cons_zero]
    go_simp
    refine (dropped_any x a0 b fo fc _ (HSA.out.below (dr _)) HE.out (List.mem_of_getElem? HBK.out) HST1.out).mono ?_
    rintro e w5 ⟨fo', fc', rfl, hen, hb5'⟩
    have hb5 : Below wB.heap.size wB w5 := bvia (dr _) hb5'
    refine hK.out _ _ ?_ (fun hS => ?_)
    · exact ⟨cellIn hb5 d11, cellIn hb5 p0, cellIn hb5 p1, cellIn hb5 p2, cellIn hb5 p3, cellIn hb5 p4, cellIn hb5 p5, cellIn hb5 p6, cellIn hb5 p7, cellIn hb5 p8, cellIn hb5 p9, cellIn hb5 p10, cellIn hb5 p11, cellIn hb5 p12, cellIn hb5 z0, cellIn hb5 z1, cellIn hb5 z2, cellIn hb5 z3, cellIn hb5 z4, cellIn hb5 z5, cellIn hb5 z6, cellIn hb5 z7, cellIn hb5 z8, cellIn hb5 z9, cellIn hb5 z10⟩
    clear hK K
    try simp only [Act.put, List.setIfInBounds_toArray, List.set_cons_zero, List.set_cons_succ, List.getElem_toArray, List.getElem_cons_succ, List.getElem_cons_zero]
    refine wpAnyB_put0 (i := 8) (d := (some 35)) (v := ?_) hset rfl rfl (by kernel_rfl) (by kernel_rfl) (by kernel_rfl) (by decide) (fun _ _ _ h => h) (Or.inl ⟨by rfl, ?_⟩) (fun _ => hS) (fun hset => ?_)
    rotate_left
    · (intro w; go_simp; try with_reducible rfl)
    simp only [Act.put, List.setIfInBounds_toArray, List.set_cons_zero, List.set_cons_succ, List.getElem_toArray, List.getElem_cons_succ, List.getElem_cons_zero]
    refine wpAnyB_steps (rs := [9]) (by kernel_rfl) (by simp) ?_
    refine StepsB.behind rfl hset (by kernel_rfl) (by kernel_rfl) (fun hset K hK => ?_) StepsB.nil
    refine step_of' (by rfl) (wp_stE 37 _ _ (by rfl) G k x.bks.length x.bks.length m lk (P.dropB x b, fo', fc') Tryz.sizeBg (by rfl) (by rfl) (OwnC.below HV3.out hb5) HV7.out hlt ?_)
    intro w9 own9 gr9
    refine hK.out _ _ ?_
    clear hK K
    try simp only [Act.put, List.setIfInBounds_toArray, List.set_cons_zero, List.set_cons_succ, List.getElem_toArray, List.getElem_cons_succ, List.getElem_cons_zero]
    all_goals refine wpAnyB_done (by kernel_rfl) ?_ _
    have HEN : Aside ((fo' = fo ∧ fc' = fc ∧ (P.dropB x b).fol = b.fol) ∨ (Fo.EntsAt w5 fo' fc' (P.dropB x b).fol ∧ ∀ b1 o1, fo' = some ⟨b1, o1, none⟩ → 0 < (P.dropB x b).fol.length → wB.heap.size ≤ b1 ∧ b1 < w5.heap.size)) := by
      rcases hen with h | ⟨h1, h2⟩
      · exact .inl h
      · exact .inr ⟨h1, fun b1 o1 e hl => by have := h2 b1 o1 e hl; simpa using this⟩
    have HB5 : Aside (Below wB.heap.size wB w5) := hb5
    have HO9 : Aside (OwnB w9 m (.slice (some ⟨G, 0, none⟩) x.bks.length x.bks.length) (lk.set k (P.dropB x b, fo', fc'))) := own9
    have HG9 : Aside (w5.grownBy w9 (some G)) := gr9
    have hszr : wr.heap.size < wB.heap.size := HBX.out.lt
    have hhd : w1.heap.size < wB.heap.size := HSN.out.hd.lt
    have HNG : Aside (wr.heap.size ≠ G ∧ G < wr.heap.size) := by show _ ∧ _; omega
    have h9I : RowIs w9 I #[v] := (HV1.out.below hb5).gr gr9 (by simp; omega)
    have h9V : OwnJ w9 (w1.heap.size + 1) v (P.lateI x.day (x.bks.take k)) := OwnC.apart (OwnC.below HV2.out hb5) gr9 (fun r e hv => by cases e; have := (HV2.out.lt _ hv).1; omega)
    have h9B : RowIs w9 wr.heap.size (C.bk b fo fc) := (HBX.out.below hb5).gr gr9 (by simp; exact HNG.out.1)
    have HI9 : Aside (RowIs w9 I #[v]) := h9I
    have HV9 : Aside (OwnJ w9 (w1.heap.size + 1) v (P.lateI x.day (x.bks.take k))) := h9V
    have hsz9 : w1.heap.size + 1 ≤ w9.heap.size := by have := hb5.size; have := gr9.size; omega
    have hlen : (P.lateI x.day (x.bks.take k)).length ≤ 1000000 := by
      have h1 : (P.lateI x.day (x.bks.take k)).length ≤ (x.bks.take k).length := by rw [P.lateI, List.length_map]; exact List.length_filter_le _ _
      have h2 := List.length_take_le k x.bks
      omega
    have i0 : w9.cell? ⟨I, 0, none⟩ = some v := h9I.cell 0
    have b0 : w9.cell? ⟨wr.heap.size, 0, none⟩ = some (.int .i64 b.id) := h9B.cell 0
    clear hen hb5 hb5' own9 gr9 hset hS d11 p0 p1 p2 p3 p4 p5 p6 p7 p8 p9 p10 p11 p12 z0 z1 z2 z3 z4 z5 z6 z7 z8 z9 z10 h9I h9V h9B hszr hhd
    go_wp2_with (at_builtin; refine wpList_app_at Tryz.infoI Tryz.underlying47 rfl (by decide) cellsI_len cellsI_one (by decide) (by rfl) _ _ (by rfl) (w1.heap.size + 1) v (P.lateI x.day (x.bks.take k)) b.id _ rfl (by rfl) HV9.out w9.heap.size rfl (by rfl) hsz9 hlen ?_; intro v3 w3 own3 gr3 hor; obtain ⟨ao3, cap3, hv3⟩ := OwnC.form own3; generalize hn3 : (P.lateI x.day (x.bks.take k) ++ [b.id]).length = n3 at hv3; subst hv3; have h3I : RowIs w3 I #[v] := HI9.out.gr gr3 (OwnC.far HV9.out (by omega)); have cI := h3I.cell 0; have fI := h3I.free 0; have HO3 : Aside (OwnJ w3 (w1.heap.size + 1) (.slice ao3 n3 cap3) (P.lateI x.day (x.bks.take k) ++ [b.id])) := own3; have HG3 : Aside (w9.grownBy w3 v.ownBlock) := gr3; have HOR : Aside ((Value.slice ao3 n3 cap3).ownBlock = v.ownBlock ∨ (Value.slice ao3 n3 cap3).ownBlock = some (w9.heap.size + 1)) := hor; clear own3 gr3 hor h3I hn3)
    have HNX : Aside (TurnSt W0 m G I w1.heap.size pd pp (w1.heap.size + 1) x a a0 (k + 1) (w3.setCell ⟨I, 0, none⟩ (.slice ao3 n3 cap3))) := turn_next HSN.out HBK.out HL.out (by omega) hmG hGl (by omega) (by omega) (by omega) hdI hpI HV1.out HV2.out HV4.out HV5.out HV6.out HB5.out HEN.out HO9.out HG9.out HO3.out HG3.out HOR.out
    go_roundg (x.bks.length - (k + 1))
    case measure => omega
    case rel => exact ⟨k + 1, by omega, rfl, by go_num, HNX⟩

end Go.Proofs.YtlamhfbdeinkkaeGreat.St
