/- What is sold under another number. -/
import Derived.Test.YtlamhfbdeinkkaeGreatSeHs
namespace Go.Proofs.YtlamhfbdeinkkaeGreat.St
open Go.RowKit Bk
set_option linter.unusedSimpArgs false
set_option linter.unusedVariables false
set_option maxRecDepth 10000

def P.setN (b : Bkg) (n : Int) : Bkg := ⟨n, b.kind, b.state, b.guests, b.level, b.cabin, b.cat, b.frm, b.to, b.til, b.fol⟩
theorem bk_num {s : Vsl} {b : Bkg} {n : Int} (h : P.bkE s b = 0) (hn : 1 ≤ n ∧ n ≤ 999999) : P.bkE s (P.setN b n) = 0 := by
  obtain ⟨h1, h2, h3, h4, h5, h6, h7⟩ := bk_all h
  have e : P.bkE s (P.setN b n) = if (P.btw b.kind 1 2 && P.btw b.state 1 3) = true then
    (if (P.btw n 1 999999 && P.btw b.guests 1 4) = true then
      (if P.chk b.frm b.to s.legs = 0 then
        (if P.kindE s b = 0 then (if P.btw b.til 0 9999 = true then (if b.til ≠ 0 ∧ b.state ≠ 1 then 1 else Fo.P.folE b.fol) else 3) else P.kindE s b)
      else P.chk b.frm b.to s.legs)
    else 3) else 7 := rfl
  have h2' : (P.btw n 1 999999 && P.btw b.guests 1 4) = true := by
    simp only [P.btw, Bool.and_eq_true, decide_eq_true_eq] at h2 ⊢
    exact ⟨hn, h2.2⟩
  rw [e, if_pos h1, if_pos h2', if_pos h3, if_pos h4, if_pos h5, if_neg h6]
  exact h7
theorem sellE_of {k : Int} {x : Sail} {b : Bkg} (h1 : b.kind = k) (h2 : b.state ≠ 3) (h3 : b.fol = []) (h4 : k = 2 → b.cabin = -1) (h5 : P.bkE x.s b = 0) (h6 : x.day < x.lvs) (h7 : P.waits x b = true) (h8 : k = 2 → x.cl = false) (h9 : P.isIn b.id x.bks = false) (h10 : x.bks.length < 16) : P.sellE k x b = 0 := by
  have a1 : ¬ (0 < b.fol.length ∨ (k = 2 ∧ b.cabin ≠ -1)) := fun h => h.elim (fun h => by rw [h3] at h; simp at h) (fun h => h.2 (h4 h.1))
  have a2 : ¬ ((x.lvs ≤ x.day ∨ P.waits x b = false) ∨ (k = 2 ∧ x.cl = true)) := fun h => h.elim (fun h => h.elim (fun h => by omega) (fun h => by rw [h7] at h; cases h)) (fun h => by rw [h8 h.1] at h; cases h.2)
  rw [P.sellE, if_pos ⟨h1, h2⟩, if_neg a1, if_pos h5, P.lateE, if_neg a2, if_neg (by rw [h9]; decide), if_neg (by omega)]
theorem sellE_num {k : Int} {x : Sail} {b : Bkg} {n : Int} (h : P.sellE k x b = 0) (hn : 1 ≤ n ∧ n ≤ 999999) (hi : P.isIn n x.bks = false) : P.sellE k x (P.setN b n) = 0 := by
  obtain ⟨s1, s2, s3, s4, s5, s6, s7, s8, s9, s10⟩ := sellE_zero h
  exact sellE_of (b := P.setN b n) s1 s2 s3 s4 (bk_num s5 hn) s6 s7 s8 hi s10

/-- Bookings without their numbers. -/
theorem mine_bare (c : Int) (l : List Bkg) : P.mine c (l.map fun y => P.setN y 0) = P.mine c l := by
  induction l with
  | nil => rfl
  | cons y t ih =>
    have e : P.hasC c (P.setN y 0) = P.hasC c y := rfl
    simp only [P.mine, List.map_cons, List.filter_cons] at ih ⊢
    rw [e]
    split
    · rw [List.map_cons, List.map_cons, ih]
      rfl
    · exact ih
theorem soul_bare (k : Int) (l : List Bkg) : P.soul k (l.map fun y => P.setN y 0) = P.soul k l := by
  induction l with
  | nil => rfl
  | cons y t ih =>
    rw [List.map_cons, P.soul, P.soul, ih]
    rfl
theorem soul_perm (k : Int) {l m : List Bkg} (h : l.Perm m) : P.soul k l = P.soul k m := by
  induction h with
  | nil => rfl
  | cons y _ ih => rw [P.soul, P.soul, ih]
  | swap y z t => rw [P.soul, P.soul, P.soul, P.soul]; omega
  | trans _ _ h1 h2 => rw [h1, h2]
theorem mine_perm (c : Int) {l m : List Bkg} (h : l.Perm m) : (P.mine c l).Perm (P.mine c m) := (h.filter _).map _
theorem meet_sym {u v : Int × Int} (h : Sp.P.meet u.1 u.2 v.1 v.2 = false) : Sp.P.meet v.1 v.2 u.1 u.2 = false := by rw [meet_comm]; exact h
/-- The room is one whatever the numbers and the order, if the open ones are the same. -/
theorem room_like {x y : Sail} (hs : y.s = x.s) (h0 : P.shp x.s = 0) (hbk : ∀ b ∈ y.bks, P.bkE x.s b = 0) (hp : (x.bks.map fun z => P.setN z 0).Perm (y.bks.map fun z => P.setN z 0)) (ho : x.bks.filter P.opn = y.bks.filter P.opn) (h : P.Room x 0) : P.Room y 0 := by
  have hlg : P.sails x.s.legs = true := by have := shp_size h0; simp [P.sails]; omega
  have hm : ∀ c : Int, (P.mine c x.bks).Perm (P.mine c y.bks) := fun c => by
    have := mine_perm c hp
    rwa [mine_bare, mine_bare] at this
  rcases h with ⟨_, h⟩ | ⟨_, _, h⟩ | ⟨h1, h2, c, hc, h⟩
  · cases h
  · cases h
  · have ht : P.twice y = false := by
      refine twice_none (fun d hd => ?_)
      rw [hs] at hd ⊢
      have hB : P.addsB x.s.legs (P.mine (d : Nat) x.bks) = true := by
        apply Classical.byContradiction
        intro hh
        have := twice_hit (x := x) (c := d) hd (by simpa using hh)
        rw [h1] at this
        cases this
      have hz : P.addsE x.s.legs [] (P.mine (d : Nat) x.bks) = 0 := by simpa [P.addsB] using hB
      have hpw := (adds_apart hz).2
      have hpw' := ((hm d).pairwise_iff (fun h => meet_sym h)).1 hpw
      have : P.addsE x.s.legs [] (P.mine (d : Nat) y.bks) = 0 := adds_of (nil_cal hlg) (fun z hz => by
        obtain ⟨b, hb, rfl⟩ := List.mem_map.1 hz
        exact (bk_ok (hbk b (List.mem_filter.1 hb).1)).1) (by simp) hpw'
      simpa [P.addsB] using this
    have hmn : P.many y = false := by
      have e : P.soulsL y.s.legs.toNat y.bks = P.soulsL x.s.legs.toNat x.bks := by
        rw [hs]
        refine List.map_congr_left (fun j _ => ?_)
        rw [← soul_bare, ← soul_perm _ hp, soul_bare]
      rw [P.many, e, hs]
      exact h2
    have hel : ∀ (b : Bkg) (c : Nat), P.elC x.s x.bks b c = P.elC y.s y.bks b c := fun b c => by
      have e : decide (P.mine (c : Int) x.bks = []) = decide (P.mine (c : Int) y.bks = []) := by
        have := (hm c).length_eq
        by_cases hx : P.mine (c : Int) x.bks = []
        · rw [hx] at this
          rw [decide_eq_true hx, decide_eq_true (List.eq_nil_of_length_eq_zero this.symm)]
        · have hy : ¬ P.mine (c : Int) y.bks = [] := fun e => hx (by rw [e] at this; exact List.eq_nil_of_length_eq_zero this)
          rw [decide_eq_false hx, decide_eq_false hy]
      rw [P.elC, P.elC, e, hs]
    have hE : ∀ z, z ∈ P.pedg x.s x.bks 0 x.bks ↔ z ∈ P.pedg y.s y.bks 0 y.bks := fun z => by
      rw [pedg_iff, pedg_iff, ho, hs]
      simp only [hel, hs]
    have hI : ∀ m, Ma.IsM (P.pedg x.s x.bks 0 x.bks) m ↔ Ma.IsM (P.pedg y.s y.bks 0 y.bks) m := fun m =>
      ⟨fun h => ⟨fun z hz => (hE z).1 (h.1 z hz), h.2⟩, fun h => ⟨fun z hz => (hE z).2 (h.1 z hz), h.2⟩⟩
    have hM : Ma.MaxM (P.pedg y.s y.bks 0 y.bks) c := by
      obtain ⟨⟨m, m1, m2⟩, m3⟩ := hc
      exact ⟨⟨m, (hI m).1 m1, m2⟩, fun m' hm' => m3 m' ((hI m').2 hm')⟩
    have hl : (P.pids y.bks).length = (P.pids x.bks).length := by rw [pids_len, pids_len, ho]
    exact .inr (.inr ⟨ht, hmn, c, hM, by rw [hl]; exact h⟩)

/-- A named booking is sold under whatever number that is free. -/
theorem sells_num {x : Sail} {b : Bkg} {n : Int} {y : Sail} (hE : P.SailE x 0) (hn : 1 ≤ n ∧ n ≤ 999999) (hi : P.isIn n x.bks = false) (h : P.Sells 1 x b 0 y) : ∃ y', P.Sells 1 x (P.setN b n) 0 y' := by
  obtain ⟨h1, rfl, _⟩ := sells_right (.inl rfl) hE h
  have hr : P.Room (P.withB x (P.priced 1 x b)) 0 := by
    rcases h with ⟨a1, _, _⟩ | ⟨_, a2, _⟩
    · exact absurd h1 a1
    · exact a2
  have h1' := sellE_num h1 hn hi
  obtain ⟨hp, hf, h0, hbk, h16, _⟩ := sail_ok hE
  obtain ⟨s1, s2, s3, s4, s5, s6, s7, s8, s9, s10⟩ := sellE_zero h1
  have hrise := (bksI_rise (pre_zero hp).2.1).2
  obtain ⟨A, B, eA, eI, _⟩ := ins_split (b := P.priced 1 x b) hrise s9
  obtain ⟨A', B', eA', eI', _⟩ := ins_split (b := P.priced 1 x (P.setN b n)) hrise hi
  have epr : P.priced 1 x (P.setN b n) = P.setN (P.priced 1 x b) n := rfl
  have hno : P.opn (P.priced 1 x b) = false := by
    have e : P.opn (P.priced 1 x b) = P.opn b := rfl
    rw [e, P.opn, s1]
    rfl
  refine ⟨_, .inr ⟨h1', ?_, .inl ⟨rfl, rfl⟩⟩⟩
  refine room_like (x := P.withB x (P.priced 1 x b)) rfl h0 (fun y hy => ?_) ?_ ?_ hr
  · have hb' := (sell_pre (.inl rfl) hE h1').1
    have hy : y ∈ P.insB (P.priced 1 x (P.setN b n)) x.bks := hy
    rw [eI'] at hy
    have : y = P.priced 1 x (P.setN b n) ∨ y ∈ x.bks := by
      rw [eA']
      simp at hy ⊢
      rcases hy with h | h | h <;> simp [h]
    rcases this with rfl | h
    · exact hb'
    · exact hbk y h
  · show ((P.insB _ _).map _).Perm ((P.insB _ _).map _)
    rw [eI, eI', epr]
    have p1 : (A ++ P.priced 1 x b :: B).Perm (P.priced 1 x b :: x.bks) := by rw [eA]; exact List.perm_middle
    have p2 : (A' ++ P.setN (P.priced 1 x b) n :: B').Perm (P.setN (P.priced 1 x b) n :: x.bks) := by rw [eA']; exact List.perm_middle
    have q1 := p1.map (fun z => P.setN z 0)
    have q2 := p2.map (fun z => P.setN z 0)
    exact q1.trans q2.symm
  · show (P.insB _ _).filter _ = (P.insB _ _).filter _
    rw [eI, eI', List.filter_append, List.filter_append, List.filter_cons, List.filter_cons, hno]
    have hno' : P.opn (P.priced 1 x (P.setN b n)) = false := hno
    rw [hno']
    simp only [Bool.false_eq_true, if_false]
    rw [← List.filter_append, ← List.filter_append, ← eA, ← eA']
theorem sells_any_num {x : Sail} {b : Bkg} {n m : Int} (hE : P.SailE x 0) (hb : b.id = m) (hm : 1 ≤ m ∧ m ≤ 999999) (hn : 1 ≤ n ∧ n ≤ 999999) (hi : P.isIn n x.bks = false) (hj : P.isIn m x.bks = false) :
    (∃ y, P.Sells 1 x b 0 y) ↔ ∃ y, P.Sells 1 x (P.setN b n) 0 y := by
  constructor
  · rintro ⟨y, h⟩
    exact sells_num hE hn hi h
  · rintro ⟨y, h⟩
    have := sells_num (n := m) hE hm hj h
    have e : P.setN (P.setN b n) m = b := by rw [← hb]; rfl
    rwa [e] at this

end Go.Proofs.YtlamhfbdeinkkaeGreat.St
