/- The reference: the walk of PromisesOf. -/
import Derived.Test.YtlamhfbdeinkkaeGreatOpenFt
import Derived.Maps.AppendAt
namespace Go.Proofs.YtlamhfbdeinkkaeGreat.St
open Go.RowKit Bk
set_option linter.unusedSimpArgs false
set_option linter.unusedVariables false
set_option maxRecDepth 10000

section
variable {α : Type} {cells : α → List Value} {size : Nat} {e : TypeId}
/-- 'append(v, y)', and where the new slice lies. -/
theorem wpList_app_at {t : TypeId} {z : Value} {bytes : Nat} (hinfo : (Tryz.prog.info? e).map (fun i => (i.zero, i.size, i.bytes)) = some (some z, size, bytes)) (hu : Tryz.prog.underlying t = some (.slice e)) (hzs : z.cells.size = size) (hs0 : 0 < size) (hc : ∀ x, (cells x).length = size) (h1c : ∀ x, ∀ u ∈ cells x, u.oneCell' = true) (hby : bytes ≤ 1000)
    {ops : Array Oper} {rest : List Oper} {o : Oper} {a : Act} {Q : Exit → Act → World → Prop} {W0 : World} (hgd : o.guard = none) (s x : Operand)
    (ho : o.op = .call { callee := .builtin .append, args := #[s, x], argTypes := #[t, t] }) (base : Nat) (v : Value) (l : List α) (y : α) (arr : Array Value) (harr : arr.toList = cells y) (hs : a.eval s = v) (hown : OwnC cells size e W0 base v l)
    (H : Nat) (hH : W0.heap.size = H) (hx : a.eval x = .slice (some ⟨H, 0, none⟩) 1 1) (hb : base ≤ W0.heap.size) (hn : l.length ≤ 1000000)
    (h : ∀ v' w', OwnC cells size e w' base v' (l ++ [y]) → W0.grownBy w' v.ownBlock → (v'.ownBlock = v.ownBlock ∨ v'.ownBlock = some (H + 1)) → wpList Tryz.prog ops Q rest (a.put o.dst v') w') : wpList Tryz.prog ops Q (o :: rest) a (W0.alloc (.cells arr e)) := by
  subst hH
  obtain ⟨i0, hi, hi0, hi1, hi2⟩ := info_parts hinfo
  have hmb : (l.length + 1) * bytes ≤ 1000001 * 1000 := Nat.mul_le_mul (by omega) hby
  have hnews : ∀ j u, (cells y)[j]? = some u → (W0.alloc (.cells arr e)).cell? ((⟨W0.heap.size, 0, none⟩ : Addr).add j) = some u := by
    intro j u hu
    rw [Go.WideShapes.add_plain, cell_of_row _ W0.heap.size (0 + j) arr e (0, 0) (heap_alloc_new W0 _), ← Array.getElem?_toList, harr, Nat.zero_add]
    exact hu
  refine wpList_append_own_at _ hgd s x t ho base e i0 z size bytes hu hi hi0 hi1 hi2 hzs hs0 v l.length (l.flatMap cells) hs (OwnC.below hown ((Below.refl _ W0).alloc (Nat.le_refl _) _)) ⟨W0.heap.size, 0, none⟩ 1 1 (cells y) hx (by rw [hc]; omega) hnews (h1c y) (by simp only [maxLen]; omega) (by omega) (by simp; omega) ?_
  intro v' w' h1 h2 _ h4
  refine h v' w' ?_ (grownA' h2) (by simpa using h4)
  show w'.ownsRow base e size v' (l ++ [y]).length _
  rw [List.flatMap_append, List.length_append]
  simpa using h1
theorem OwnC.apart {w w' : World} {base : Nat} {v : Value} {l : List α} {row : Option Nat} (h : OwnC cells size e w base v l) (hg : w.grownBy w' row) (hr : ∀ r, row = some r → v.ownBlock ≠ some r) : OwnC cells size e w' base v l := by
  refine ⟨h.1, ?_⟩
  rcases h.2 with h2 | ⟨g, cap, cur, hv, hgb, hh, r⟩
  · exact Or.inl h2
  · refine Or.inr ⟨g, cap, cur, hv, hgb, ?_, r⟩
    rw [hg.block g (Array.getElem?_eq_some_iff.1 hh).1 (fun e => hr g e.symm (by rw [hv]; rfl))]
    exact hh
theorem OwnC.ahead {w : World} {base base' : Nat} {v : Value} {l : List α} (h : OwnC cells size e w base v l) (hb : base' ≤ base) : OwnC cells size e w base' v l := by
  refine ⟨h.1, ?_⟩
  rcases h.2 with h2 | ⟨g, cap, cur, hv, hg, r⟩
  · exact Or.inl h2
  · exact Or.inr ⟨g, cap, cur, hv, Nat.le_trans hb hg, r⟩
end
theorem cell_gr {W W' : World} {row : Option Nat} {b o : Nat} {v : Value} (hg : W.grownBy W' row) (h : W.cell? ⟨b, o, none⟩ = some v) (hr : row ≠ some b) : W'.cell? ⟨b, o, none⟩ = some v := by
  have e : W'.heap[b]? = W.heap[b]? := hg.block b (World.block_lt_of_cell? W _ h) (fun e => hr e.symm)
  rw [← h]
  simp only [World.cell?, e]
theorem BBox.gr {W W' : World} {row : Option Nat} {g : Nat} {x : Bkg} {fo : Option Addr} {fc : Nat} (h : BBox W g x fo fc) (hg : W.grownBy W' row) (hr : row ≠ some g) : BBox W' g x fo fc :=
  ⟨cell_gr hg h.c0 hr, cell_gr hg h.c1 hr, cell_gr hg h.c2 hr, cell_gr hg h.c3 hr, cell_gr hg h.c4 hr, cell_gr hg h.c5 hr, cell_gr hg h.c6 hr, cell_gr hg h.c7 hr, cell_gr hg h.c8 hr, cell_gr hg h.c9 hr, cell_gr hg h.c10 hr⟩
theorem SBox.low {w w' : World} {N g : Nat} {x : Sail} {a : SailA} (h : SBox w g x a) (hb : Below N w w') (hg : g < N) : SBox w' g x a := by
  have e : ∀ o v, w.cell? ⟨g, o, none⟩ = some v → w'.cell? ⟨g, o, none⟩ = some v := fun o v hv => by rw [hb.cell (p := ⟨g, o, none⟩) hg]; exact hv
  exact ⟨e _ _ h.c0, e _ _ h.c1, e _ _ h.c2, e _ _ h.c3, e _ _ h.c4, e _ _ h.c5, e _ _ h.c6, e _ _ h.c7, e _ _ h.c8, e _ _ h.c9, e _ _ h.c10, e _ _ h.c11, e _ _ h.c12⟩

set_option maxHeartbeats 8000000 in
theorem promisesOf_any (x : Sail) (a : SailA) (w : World) (hs : SailAt w x a) (h0 : P.shp x.s = 0) (hbk : ∀ b ∈ x.bks, P.bkE x.s b = 0) (h16 : x.bks.length ≤ 16) :
    Calls Tryz.prog 131 #[V.sail x a] w fun e w' => ∃ v1 v2, e = .returned (.tuple #[v1, v2]) ∧ OwnJ w' w.heap.size v1 (P.pids x.bks) ∧ OwnG w' w.heap.size v2 (P.pedg x.s x.bks 0 x.bks) ∧ Below w.heap.size w w' := by
  obtain ⟨hl1, hl7, _, _, _, _, _, hbs⟩ := shp_size h0
  have hle := hs.bks.le
  have hmx := hs.bks.max
  unfold maxLen at hmx
  have HSL : Aside (P.sails x.s.legs = true) := by show _ = _; simp [P.sails]; omega
  have HBK : Aside (∀ b ∈ x.bks, P.bkE x.s b = 0) := hbk
  have H0 : Aside (P.shp x.s = 0) := h0
  have hsx := SBox.new w x a
  clear hbk h0 hl1 hl7
  go_enter Tryz.func131, Tryz.ntmps131
  go_wp2
  go_loopg [4, 5, 6] x.bks.length (fun g iv ev i wr => ∃ (k : Nat), k ≤ x.bks.length ∧ g = x.bks.length - k ∧ i = .int .i64 k ∧ OwnJ wr (w.heap.size + 1) iv (P.pids (x.bks.take k)) ∧ OwnG wr (w.heap.size + 1) ev (P.pedg x.s x.bks 0 (x.bks.take k)) ∧ (∀ r, ev.ownBlock = some r → iv.ownBlock ≠ some r) ∧ w.heap.size + 1 ≤ wr.heap.size ∧ Below (w.heap.size + 1) (W.sail w x a) wr)
  case atStart => exact ⟨0, Nat.zero_le _, rfl, rfl, OwnC.nil _ _, OwnC.nil _ _, (fun r e => by cases e), by simp, Below.refl _ _⟩
  case round =>
    obtain ⟨k, hk, rfl, rfl, hi, he, hfar, hsz, hB⟩ := hrel
    have hbx := hsx.low hB (by omega)
    have HBX : Aside (SBox wr w.heap.size x a) := hbx
    have hBw : Below w.heap.size w wr := (sail_below w x a).trans (hB.mono (by omega))
    by_cases hlt : k < x.bks.length
    · obtain ⟨b, off, y, fo, fc, hao, hbw, hd, hy, hfy⟩ := BksAt.get hs.bks hBw k hlt
      have HT : Aside (x.bks.take (k + 1) = x.bks.take k ++ [y]) := take_snoc' hlt hd
      have HRB : Aside (P.bkE x.s y = 0) := HBK.out y (mem_of_drop hd)
      have hkl : (k : Int) < x.bks.length := by omega
      have c11 := hbx.c11
      rw [hao] at c11
      obtain ⟨y0, y1, y2, y3, y4, y5, y6, y7, y8, y9, y10⟩ := hy
      have hbl : b < wr.heap.size := World.block_lt_of_cell? wr _ y0
      have HAO : Aside (a.ao = some ⟨b, off, none⟩) := hao
      clear hd hao hbx
      go_wp2_with fail
      refine (isOpen_any y fo fc _).mono ?_
      rintro e w1 ⟨rfl, hb1⟩
      have hB1 : Below wr.heap.size wr w1 := bvia (by go_grown) hb1
      have hG1 : wr.heap.size < w1.heap.size := by have := hb1.size; simp at this; omega
      have HYB : Aside (BBox w1 wr.heap.size y fo fc) := (BBox.new wr y fo fc).below hb1
      have hi1 := OwnC.below hi hB1
      have he1 := OwnC.below he hB1
      have hev : ∀ r, u5.ownBlock = some r → r ≠ wr.heap.size := fun r e => by have := (he.lt r e).2; omega
      have hB2 : Below (w.heap.size + 1) (W.sail w x a) w1 := hB.trans (hB1.mono hsz)
      have hf1 : Fo.EntsAt w1 fo fc y.fol := SlAt.below Fo.REnt.mono hfy hB1
      clear y0 y1 y2 y3 y4 y5 y6 y7 y8 y9 y10 hb1 hi he c11 hB hfy
      cases ho : P.opn y
      · have HI : Aside (P.pids (x.bks.take (k + 1)) = P.pids (x.bks.take k)) := by show _ = _; rw [HT.out, pids_snoc, ho]; simp
        have HE : Aside (P.pedg x.s x.bks 0 (x.bks.take (k + 1)) = P.pedg x.s x.bks 0 (x.bks.take k)) := by show _ = _; rw [HT.out, pedg_snoc, ho]; simp
        rw [← HI.out] at hi1
        rw [← HE.out] at he1
        have HI1 : Aside (OwnJ w1 (w.heap.size + 1) u4 (P.pids (x.bks.take (k + 1)))) := hi1
        have HE1 : Aside (OwnG w1 (w.heap.size + 1) u5 (P.pedg x.s x.bks 0 (x.bks.take (k + 1)))) := he1
        clear hi1 he1
        go_wp2
        go_roundg (x.bks.length - (k + 1))
        case measure => omega
        case rel => exact ⟨k + 1, by omega, rfl, by go_num, HI1.out, HE1.out, hfar, by omega, hB2⟩
      · have HI : Aside (P.pids (x.bks.take (k + 1)) = P.pids (x.bks.take k) ++ [y.id]) := by show _ = _; rw [HT.out, pids_snoc, if_pos ho]
        have HE : Aside (P.pedg x.s x.bks 0 (x.bks.take (k + 1)) = P.pedg x.s x.bks 0 (x.bks.take k) ++ P.edgs x.s x.bks (P.pids (x.bks.take k)).length y x.s.bs.length) := by show _ = _; rw [HT.out, pedg_snoc, if_pos ho, pids_len, Nat.zero_add]
        have hel : (P.pedg x.s x.bks 0 (x.bks.take k)).length ≤ 192 := by
          have h1 := pedg_len x.s x.bks (x.bks.take k) 0
          have h2 : (x.bks.take k).length ≤ 16 := Nat.le_trans (List.length_take_le' k x.bks) h16
          have h3 := Nat.mul_le_mul h2 hbs
          omega
        have hil : (P.pids (x.bks.take k)).length ≤ 16 := by
          rw [pids_len]
          have h1 := List.length_filter_le P.opn (x.bks.take k)
          have h2 : (x.bks.take k).length ≤ 16 := Nat.le_trans (List.length_take_le' k x.bks) h16
          omega
        have HCAT : Aside (0 ≤ y.cat ∧ y.cat < x.s.cs.length) := open_prom HRB.out ho
        generalize P.pids (x.bks.take k) = I0 at hi1 HI HE hil
        generalize P.pedg x.s x.bks 0 (x.bks.take k) = E0 at he1 HE hel
        obtain ⟨ai, ci, rfl, ai1⟩ := OwnJ.at hi1
        have hile := ai1.le
        have himx := ai1.max
        unfold maxLen at himx
        clear ai1
        have HI1 : Aside (OwnJ w1 (w.heap.size + 1) (.slice ai I0.length ci) I0) := hi1
        have HE1 : Aside (OwnG w1 (w.heap.size + 1) u5 E0) := he1
        clear hi1 he1
        go_wp2
        obtain ⟨wo, rfl⟩ : ∃ wo : World, wo = wr := ⟨_, rfl⟩
        go_loopg [5, 8] x.s.bs.length (fun g ev c wx => ∃ (m : Nat), m ≤ x.s.bs.length ∧ g = x.s.bs.length - m ∧ c = .int .i64 m ∧ OwnG wx (w.heap.size + 1) ev (E0 ++ P.edgs x.s x.bks I0.length y m) ∧ OwnJ wx (w.heap.size + 1) (.slice ai I0.length ci) I0 ∧ (∀ r, ev.ownBlock = some r → (Value.slice ai I0.length ci).ownBlock ≠ some r) ∧ (∀ r, ev.ownBlock = some r → r ≠ wo.heap.size) ∧ BBox wx wo.heap.size y fo fc ∧ wo.heap.size < wx.heap.size ∧ Below (w.heap.size + 1) (W.sail w x a) wx)
        case atStart => exact ⟨0, Nat.zero_le _, rfl, rfl, by simpa [P.edgs] using HE1.out, HI1.out, hfar, hev, HYB.out, hG1, hB2⟩
        case round =>
          clear HE1 HI1 hfar hev HYB hG1 hB2 HBX hB1 hf1
          obtain ⟨m, hm, rfl, rfl, he, hi, hfar, hev, hyb, hG, hB⟩ := hrel
          have hbx := hsx.low hB (by omega)
          have hBw : Below w.heap.size w wr := (sail_below w x a).trans (hB.mono (by omega))
          have HBX : Aside (SBox wr w.heap.size x a) := hbx
          have HYB : Aside (BBox wr wo.heap.size y fo fc) := hyb
          have c11 := hbx.c11
          have c3 := hbx.c3
          have hsz2 : w.heap.size + 1 ≤ wr.heap.size := by omega
          by_cases hml : m < x.s.bs.length
          · have hmc : P.cabB x.s m = true := cabB_in (by omega) (by omega)
            have HMC : Aside (P.cabB x.s m = true) := hmc
            have HCH : Aside (∀ b ∈ x.bks, P.chk b.frm b.to x.s.legs = 0) := fun b hb => (bk_ok (HBK.out b hb)).1
            have HON : Aside (P.edgs x.s x.bks I0.length y (m + 1) = P.edgs x.s x.bks I0.length y m ++ (if P.elC x.s x.bks y m = true then [((I0.length : Int), ((m : Nat) : Int))] else [])) := edgs_on ..
            have hedl := edgs_len x.s x.bks I0.length y m
            have HFAR : Aside (∀ r, u5.ownBlock = some r → (Value.slice ai I0.length ci).ownBlock ≠ some r) := hfar
            have HEV : Aside (∀ r, u5.ownBlock = some r → r ≠ wo.heap.size) := hev
            clear hmc hbx hyb hfar hev
            go_wp2_with fail
            refine (spansOf_any x.s.legs a.ao a.cap x.bks m _ (SlAt.below RBk.mono hs.bks hBw) HSL.out HCH.out).mono ?_
            rintro e w2 ⟨v2, rfl, own2, hb2⟩
            have he2 := OwnC.below he hb2
            have hi2 := OwnC.below hi hb2
            have hB2 : Below (w.heap.size + 1) (W.sail w x a) w2 := hB.trans (hb2.mono hsz2)
            have HY2 : Aside (BBox w2 wo.heap.size y fo fc) := HYB.out.below hb2
            have HX2 : Aside (SBox w2 w.heap.size x a) := HBX.out.below hb2
            have hG2 : wo.heap.size < w2.heap.size := by have := hb2.size; omega
            have HE2 : Aside (OwnG w2 (w.heap.size + 1) u5 (E0 ++ P.edgs x.s x.bks I0.length y m)) := he2
            have HI2 : Aside (OwnJ w2 (w.heap.size + 1) (.slice ai I0.length ci) I0) := hi2
            have hBw2 : Below w.heap.size w w2 := (sail_below w x a).trans (hB2.mono (by omega))
            clear he hi he2 hi2 HYB HBX c11 c3 hB hb2 hG
            by_cases hmn : P.mine m x.bks = []
            · have HAD : Aside (P.addsB x.s.legs (P.mine m x.bks) = true) := by show _ = _; rw [hmn]; rfl
              have HAL : Aside (P.addsL x.s.legs [] (P.mine m x.bks) = []) := by show _ = _; rw [hmn]; rfl
              have HEL : Aside (P.elC x.s x.bks y m = P.elig x.s y m) := by show _ = _; simp [P.elC, hmn]
              rw [HAD.out]
              rw [HAL.out] at own2
              obtain ⟨a2, c2, rfl, -⟩ := Sp.Own.at own2
              obtain ⟨z0, z1, z2, z3, z4, z5, z6, z7, z8, z9, z10⟩ := HY2.out
              obtain ⟨d0, d1, d2, d3, d4, d5, d6, d7, d8, d9, d10, d11, d12⟩ := HX2.out
              clear own2 hmn HAD HAL
              go_wp2_with fail
              refine (isEligible_any x.s a.v y fo fc m _ (hs.below hBw2).ship H0.out HMC.out HCAT.out).mono ?_
              rintro e w3 ⟨rfl, hb3⟩
              have he3 := OwnC.below HE2.out hb3
              have hi3 := OwnC.below HI2.out hb3
              have hB3 : Below (w.heap.size + 1) (W.sail w x a) w3 := hB2.trans (hb3.mono (by omega))
              have hG3 : wo.heap.size < w3.heap.size := by have := hb3.size; omega
              have HY3 : Aside (BBox w3 wo.heap.size y fo fc) := HY2.out.below hb3
              have HE3 : Aside (OwnG w3 (w.heap.size + 1) u5 (E0 ++ P.edgs x.s x.bks I0.length y m)) := he3
              have HI3 : Aside (OwnJ w3 (w.heap.size + 1) (.slice ai I0.length ci) I0) := hi3
              clear z0 z1 z2 z3 z4 z5 z6 z7 z8 z9 z10 d0 d1 d2 d3 d4 d5 d6 d7 d8 d9 d10 d11 d12 he3 hi3 HY2 HX2 HE2 HI2 hB2 hb3
              cases hel2 : P.elig x.s y m
              · have HN : Aside (P.edgs x.s x.bks I0.length y (m + 1) = P.edgs x.s x.bks I0.length y m) := by show _ = _; rw [HON.out, HEL.out, hel2]; simp
                go_wp2
                go_roundg (x.s.bs.length - (m + 1))
                case measure => omega
                case rel => exact ⟨m + 1, by omega, rfl, by go_num, by rw [HN.out]; exact HE3.out, HI3.out, HFAR.out, HEV.out, HY3.out, hG3, hB3⟩
              · have HN : Aside (E0 ++ P.edgs x.s x.bks I0.length y (m + 1) = (E0 ++ P.edgs x.s x.bks I0.length y m) ++ [((I0.length : Int), ((m : Nat) : Int))]) := by show _ = _; rw [HON.out, HEL.out, hel2, List.append_assoc]; simp
                go_wp2_with (at_builtin; refine wpList_app_at Tryz.infoG Tryz.underlying65 rfl (by decide) cellsG_len cellsG_one (by decide) (by rfl) _ _ (by rfl) (w.heap.size + 1) _ (E0 ++ P.edgs x.s x.bks I0.length y m) ((I0.length : Int), ((m : Nat) : Int)) _ (by rfl) (by rfl) HE3.out w3.heap.size rfl (by rfl) (by omega) (by rw [List.length_append]; omega) ?_; intro v4 w4 hown4 hgr4 hat4)
                have hlt5 : ∀ r, u5.ownBlock = some r → r < w3.heap.size ∧ w.heap.size + 1 ≤ r := fun r e => ⟨(HE3.out.lt r e).2, (HE3.out.lt r e).1⟩
                have hltI : ∀ r, (Value.slice ai I0.length ci).ownBlock = some r → r < w3.heap.size := fun r e => (HI3.out.lt r e).2
                have hi4 : OwnJ w4 (w.heap.size + 1) (.slice ai I0.length ci) I0 := OwnC.apart HI3.out hgr4 (fun r e => HFAR.out r e)
                have hy4 : BBox w4 wo.heap.size y fo fc := BBox.gr HY3.out hgr4 (fun e => HEV.out _ e rfl)
                have hB4 : Below (w.heap.size + 1) (W.sail w x a) w4 := hB3.grown hgr4 (by omega) (fun r e => (hlt5 r e).2)
                have hG4 : wo.heap.size < w4.heap.size := by have := hgr4.size; omega
                have hfar4 : ∀ r, v4.ownBlock = some r → (Value.slice ai I0.length ci).ownBlock ≠ some r := fun r e => by
                  rcases hat4 with h | h
                  · exact HFAR.out r (h.symm.trans e)
                  · intro e2
                    have := hltI r e2
                    rw [h] at e
                    have := Option.some.inj e
                    omega
                have hev4 : ∀ r, v4.ownBlock = some r → r ≠ wo.heap.size := fun r e => by
                  rcases hat4 with h | h
                  · exact HEV.out r (h.symm.trans e)
                  · rw [h] at e
                    have := Option.some.inj e
                    omega
                rw [← HN.out] at hown4
                go_wp2
                go_roundg (x.s.bs.length - (m + 1))
                case measure => omega
                case rel => exact ⟨m + 1, by omega, rfl, by go_num, hown4, hi4, hfar4, hev4, hy4, hG4, hB4⟩
            · have HN : Aside (P.edgs x.s x.bks I0.length y (m + 1) = P.edgs x.s x.bks I0.length y m) := by show _ = _; rw [HON.out]; simp [P.elC, hmn]
              cases had : P.addsB x.s.legs (P.mine m x.bks)
              · obtain ⟨a2, c2, hv2, -⟩ := Sp.Own.at own2
                rw [hv2]
                clear own2 hv2 hmn
                go_wp2
                go_roundg (x.s.bs.length - (m + 1))
                case measure => omega
                case rel => exact ⟨m + 1, by omega, rfl, by go_num, by rw [HN.out]; exact HE2.out, HI2.out, HFAR.out, HEV.out, HY2.out, hG2, hB2⟩
              · have hln : 0 < (P.addsL x.s.legs [] (P.mine m x.bks)).length := by
                  rw [adds_len (by simpa [P.addsB] using had)]
                  have := List.length_pos_iff.2 hmn
                  simp; omega
                obtain ⟨a2, c2, hv2, -⟩ := Sp.Own.at own2
                generalize (P.addsL x.s.legs [] (P.mine m x.bks)).length = nl at hln hv2
                have hn0 : ((nl : Int) == 0) = false := by simp; omega
                rw [hv2]
                clear own2 hv2 hmn
                go_wp2
                go_roundg (x.s.bs.length - (m + 1))
                case measure => omega
                case rel => exact ⟨m + 1, by omega, rfl, by go_num, by rw [HN.out]; exact HE2.out, HI2.out, HFAR.out, HEV.out, HY2.out, hG2, hB2⟩
          · obtain rfl : m = x.s.bs.length := by omega
            have z0 := hyb.c0
            have HE9 : Aside (OwnG wr (w.heap.size + 1) u5 (E0 ++ P.edgs x.s x.bks I0.length y x.s.bs.length)) := he
            have HI9 : Aside (OwnJ wr (w.heap.size + 1) (.slice ai I0.length ci) I0) := hi
            have HFAR : Aside (∀ r, u5.ownBlock = some r → (Value.slice ai I0.length ci).ownBlock ≠ some r) := hfar
            clear he hi hyb hbx hfar hev HBX HYB
            go_wp2_with (at_builtin; refine wpList_app_at Tryz.infoI Tryz.underlying47 rfl (by decide) cellsI_len cellsI_one (by decide) (by rfl) _ _ (by rfl) (w.heap.size + 1) _ I0 y.id _ (by rfl) (by rfl) HI9.out wr.heap.size rfl (by rfl) (by omega) (by omega) ?_; intro v4 w4 hown4 hgr4 hat4)
            have hltI : ∀ r, (Value.slice ai I0.length ci).ownBlock = some r → r < wr.heap.size ∧ w.heap.size + 1 ≤ r := fun r e => ⟨(HI9.out.lt r e).2, (HI9.out.lt r e).1⟩
            have hltE : ∀ r, u5.ownBlock = some r → r < wr.heap.size := fun r e => (HE9.out.lt r e).2
            have he4 : OwnG w4 (w.heap.size + 1) u5 (E0 ++ P.edgs x.s x.bks I0.length y x.s.bs.length) := OwnC.apart HE9.out hgr4 (fun r e e2 => HFAR.out r e2 e)
            have hB4 : Below (w.heap.size + 1) (W.sail w x a) w4 := hB.grown hgr4 (by omega) (fun r e => (hltI r e).2)
            have hfar4 : ∀ r, u5.ownBlock = some r → v4.ownBlock ≠ some r := fun r e => by
              rcases hat4 with h | h
              · rw [h]; exact HFAR.out r e
              · rw [h]
                intro e2
                have := hltE r e
                have := Option.some.inj e2
                omega
            have hsz4 : w.heap.size + 1 ≤ w4.heap.size := by have := hgr4.size; omega
            rw [← HI.out] at hown4
            rw [← HE.out] at he4
            go_wp2
            go_roundg (x.bks.length - (k + 1))
            case measure => omega
            case rel => exact ⟨k + 1, by omega, rfl, by go_num, hown4, he4, hfar4, hsz4, hB4⟩
    · obtain rfl : k = x.bks.length := by omega
      rw [List.take_of_length_le (Nat.le_refl _)] at hi he
      obtain ⟨ai, ci, rfl, _⟩ := OwnJ.at hi
      obtain ⟨ae, ce, rfl, _⟩ := OwnC.at cellsG_len he
      have c11 := hbx.c11
      have HI := OwnC.ahead hi (base' := w.heap.size) (by omega)
      have HG := OwnC.ahead he (base' := w.heap.size) (by omega)
      clear hi he hfar hbx HBX
      go_wp2
      go_ret2
      exact ⟨_, _, rfl, HI, HG, hBw⟩

end Go.Proofs.YtlamhfbdeinkkaeGreat.St
