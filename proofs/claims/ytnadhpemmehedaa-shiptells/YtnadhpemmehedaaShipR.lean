/- The walk of the reference's OrderOf. -/
import Derived.Test.YtnadhpemmehedaaShipP
import Derived.Test.YtnadhpemmehedaaShipQ
namespace Go.Proofs.Ytnadhpemmehedaa
open Go.RowKit
set_option linter.unusedSimpArgs false
set_option linter.unusedVariables false
set_option linter.unnecessarySimpa false

theorem TblAt.blocks {w w' : World} {base n g : Nat} {B : Nat → Nat} {T : Tab} (h : TblAt w base n g B T) (hg : w'.heap[g]? = w.heap[g]?) (hb : ∀ i, i < n → w'.heap[B i]? = w.heap[B i]?) : TblAt w' base n g B T :=
  ⟨h.lo, h.rlo, h.inj, fun i hi => (World.cell?_of_block (a := ⟨g, i, none⟩) hg).trans (h.out i hi), fun i hi => (h.row i hi).of_block (hb i hi)⟩

theorem order_next {T : Tab} {n : Nat} {l : List Int} (hlen : (P.order T n n []).length = n) (he : P.order T n (n - l.length) l = P.order T n n []) (hl : l.length < n) :
    P.least (P.may T n l) n < n ∧ P.order T n (n - (l.length + 1)) (l ++ [(P.least (P.may T n l) n : Int)]) = P.order T n n [] := by
  have hlt : P.least (P.may T n l) n < n := by
    rcases Nat.lt_or_ge (P.least (P.may T n l) n) n with h | h
    · exact h
    · rw [order_stop (by omega)] at he
      rw [← he] at hlen
      omega
  refine ⟨hlt, ?_⟩
  rw [show n - l.length = (n - (l.length + 1)) + 1 by omega, P.order, if_pos hlt] at he
  exact he

/-- What holds of a ship that is right, of the two tables. -/
theorem tables {legs souls : Int} {cs : List Cat} {bs : List Cab} (h0 : P.shipE legs souls cs bs = 0) : (∀ l c, c < cs.length → P.rok (P.war (P.rbase cs) cs.length) l c cs.length = P.may (P.war (P.base cs) cs.length) cs.length l c) ∧ (P.order (P.war (P.base cs) cs.length) cs.length cs.length []).length = cs.length := by
  obtain ⟨hn1, hn5, hh, hre, htr, han, hol⟩ := ship_facts h0
  obtain ⟨hlen, _⟩ := order_all hre htr han
  have hc := (ship_ok h0).2.2.2.1
  rw [circle_ref hh] at hc
  refine ⟨fun l c hcn => rok_may hcn (fun a b _ _ => war_split cs cs.length a b) (fun i hi => ?_), hlen⟩
  cases e : P.war (P.rbase cs) cs.length i i with
  | false => rfl
  | true => rw [(some_iff (fun i => P.war (P.rbase cs) cs.length i i) _).2 ⟨i, hi, e⟩] at hc; cases hc

theorem hasInt_snoc (l : List Int) (x y : Int) : P.hasInt (l ++ [x]) y = (P.hasInt l y || decide (x = y)) := by simp [P.hasInt, List.any_append]

theorem wpList_append_intH {ops : Array Oper} {rest : List Oper} {o : Oper} {a : Act} {Q : Exit → Act → World → Prop} {W0 : World} (hgd : o.guard = none) (s x : Operand)
    (ho : o.op = .call { callee := .builtin .append, args := #[s, x], argTypes := #[47, 47] }) (base : Nat) (v : Value) (l : List Int) (n : Int) (hs : a.eval s = v) (hown : OwnI W0 base v l) (H : Nat) (hH : W0.heap.size = H)
    (hx : a.eval x = .slice (some ⟨H, 0, none⟩) 1 1) (hb : base ≤ W0.heap.size) (hn : l.length ≤ 1000000)
    (h : ∀ v' w', OwnI w' base v' (l ++ [n]) → W0.grownBy w' v.ownBlock → wpList Try.prog ops Q rest (a.put o.dst v') w') : wpList Try.prog ops Q (o :: rest) a (W0.alloc (.cells #[.int .i64 n] 3)) :=
  wpList_append_int hgd s x ho base v l n hs hown (by rw [hx, hH]) hb hn h

set_option maxRecDepth 100000 in
set_option maxHeartbeats 4000000 in
theorem orderOf_any (legs souls : Int) (cao bao : Option Addr) (cc bc : Nat) (cs : List Cat) (bs : List Cab) (w : World) (hs : ShipAt w cao bao cc bc cs bs) (h0 : P.shipE legs souls cs bs = 0) :
    Calls Try.prog 27 #[.agg #[.int .i64 legs, .int .i64 souls, .slice cao cs.length cc, .slice bao bs.length bc]] w fun e w' => ∃ v', e = .returned v' ∧ OwnI w' w.heap.size v' (P.orderL legs souls cs bs) ∧ Below w.heap.size w w' := by
  obtain ⟨hn1, hn5, hh, _, _, _, hol⟩ := ship_facts h0
  obtain ⟨hmay, hlen⟩ := tables h0
  have HH : Aside (∀ c ∈ cs, ∀ h ∈ c.2, 0 ≤ h ∧ h < cs.length) := hh
  generalize hT : P.war (P.base cs) cs.length = T at hmay hlen hol
  generalize hR : P.war (P.rbase cs) cs.length = R at hmay
  have HR : Aside (P.war (P.rbase cs) cs.length = R) := hR
  have HM : Aside ((∀ l c, c < cs.length → P.rok R l c cs.length = P.may T cs.length l c) ∧ (P.order T cs.length cs.length []).length = cs.length) := ⟨hmay, hlen⟩
  have HO : Aside (P.orderL legs souls cs bs = P.order T cs.length cs.length []) := hol
  clear hT hR hmay hlen hol hh h0
  obtain ⟨j0, hj, hj0, hj1, hj2⟩ := info_parts Try.infoBool
  have HJ : Aside (Try.prog.info? 4 = some j0 ∧ j0.zero = some (.bool false) ∧ j0.size = 1 ∧ j0.bytes = 1) := ⟨hj, hj0, hj1, hj2⟩
  clear hj hj0 hj1 hj2
  go_enter Try.func27, Try.ntmps27
  go_wp2_with fail
  refine (serveTable_any legs souls _ _ _ _ cs bs _ (hs.below (by go_grown)) hn1 hn5 HH.out).mono ?_
  rintro e w1 ⟨g, cap, B, rfl, hT1, hb1⟩
  rw [HR.out] at hT1
  have hw1 : Below w.heap.size w w1 := bvia (by go_grown) hb1
  clear hb1
  have HT1 : Aside (TblAt w1 ((w.alloc (.cells #[.int .i64 legs, .int .i64 souls, .slice cao cs.length cc, .slice bao bs.length bc] 45)).heap.size + 1) cs.length g B R) := hT1
  clear hT1
  go_wp2_with (at_make; refine wpList_make_full _ (by rfl) _ _ 77 (by rfl) w1.heap.size 4 j0 _ 1 Try.underlying77 HJ.out.1 HJ.out.2.1 HJ.out.2.2.1 _ _ _ _ cs.length (by rfl) (by rfl) rfl rfl (by rw [HJ.out.2.2.2]; omega) (by unfold maxLen; omega) (Nat.le_refl _) ?_; intro w2 hrow2 hgr2)
  have hD := row_of_made hrow2
  have hb2 := below_none hgr2
  have hT2 := HT1.out.below hb2
  have hw2 := bvia hw1 hb2
  have h1s := hw1.size
  have hgl : g < w1.heap.size := by have := HT1.out.out 0 (by omega); exact World.block_lt_of_cell? w1 _ this
  have hBl : Aside (∀ i, i < cs.length → B i < w1.heap.size) := fun i hi => (HT1.out.row i hi).lt
  have hDl := hD.lt
  generalize hbase : (w.alloc (.cells #[.int .i64 legs, .int .i64 souls, .slice cao cs.length cc, .slice bao bs.length bc] 45)).heap.size + 1 = b0 at hT2
  clear HT1 hrow2 hgr2 hb2 hw1 hbase
  go_loopg [5] cs.length (fun m v wx => ∃ (l : List Int), l.length ≤ cs.length ∧ m = cs.length - l.length ∧ OwnI wx w2.heap.size v l ∧ Aside (P.order T cs.length (cs.length - l.length) l = P.order T cs.length cs.length []) ∧ TblAt wx b0 cs.length g B R ∧ wx.rowIs w1.heap.size 4 cs.length (fun j => .bool (P.hasInt l j)) ∧ Below w.heap.size w wx ∧ w2.heap.size ≤ wx.heap.size)
  case atStart => exact ⟨[], Nat.zero_le _, rfl, World.ownsRow_nil _ _ _ _, rfl, hT2, hD.congr (fun i _ => by simp [P.hasInt]), hw2, Nat.le_refl _⟩
  case round =>
    clear hT2 hD hw2
    obtain ⟨l, hl, rfl, hown, HE, hT, hD, hB, hsw⟩ := hrel
    obtain ⟨ao, cp, rfl, _⟩ := OwnI.at hown
    by_cases hll : l.length < cs.length
    · have HOwn : Aside (OwnI wr w2.heap.size (.slice ao l.length cp) l) := hown
      have HTt : Aside (TblAt wr b0 cs.length g B R) := hT
      have HDd : Aside (wr.rowIs w1.heap.size 4 cs.length (fun j => .bool (P.hasInt l j))) := hD
      clear hown hT hD
      go_wp2
      go_loopg [6, 7] cs.length (fun m nx iv wx => ∃ (k : Nat) (X I : Int), k ≤ cs.length ∧ m = k ∧ nx = .int .i64 X ∧ iv = .int .i64 I ∧ I = (k : Int) - 1 ∧ Aside (P.Nx (fun c => P.rok R l c cs.length) k cs.length X) ∧ wx = wr)
      case atStart => exact ⟨cs.length, -1, (cs.length : Int) - 1, Nat.le_refl _, rfl, rfl, by go_num, rfl, .inl ⟨rfl, fun j h1 h2 => by omega⟩, rfl⟩
      case round =>
        obtain ⟨k, X, I, hk, hmk, rfl, rfl, hI, HX, rfl⟩ := hrel
        by_cases hk0 : k = 0
        · subst hk0
          obtain rfl : I = -1 := by omega
          clear hI hmk
          have hnx := order_next HM.out.2 HE.out hll
          obtain rfl : X = P.least (P.may T cs.length l) cs.length := Nx.done HX.out (fun i hi => HM.out.1 l i hi) hnx.1
          generalize P.least (P.may T cs.length l) cs.length = X at hnx
          obtain ⟨hX, hX2⟩ := hnx
          have HX2 : Aside (P.order T cs.length (cs.length - (l.length + 1)) (l ++ [(X : Int)]) = P.order T cs.length cs.length []) := hX2
          clear hX2 HX
          have q1 : (X : Int) < cs.length := by omega
          have q2 : (0 : Int) ≤ X := by omega
          have hce := HDd.out.cell hX
          have hfr := HDd.out.frozen X
          have HO2 : Aside (OwnI (wr.setCell ⟨w1.heap.size, X, none⟩ (.bool true)) w2.heap.size (.slice ao l.length cp) l) := by
            refine Go.ownsRow_setCell_other HOwn.out (fun e => ?_) _
            have := (HOwn.out.lt _ e).1
            simp at this
            omega
          have hsz : w2.heap.size ≤ (wr.setCell ⟨w1.heap.size, X, none⟩ (.bool true)).heap.size := by simpa using hsw
          go_wp2_with (at_builtin; refine wpList_append_intH (by rfl) _ _ (by rfl) w2.heap.size _ l X (by rfl) HO2.out wr.heap.size (by simp) (by rfl) hsz (by omega) ?_; intro v3 w3 hown3 hgr3)
          go_roundg (cs.length - (l.length + 1))
          case measure => omega
          case rel =>
            have hge : ∀ b, (Value.slice ao l.length cp).ownBlock = some b → w2.heap.size ≤ b := fun b hb => (HO2.out.lt b hb).1
            have keep : ∀ b, b < w2.heap.size → b ≠ w1.heap.size → w3.heap[b]? = wr.heap[b]? := fun b hb hne => by
              rw [hgr3.block b (by simp; omega) (fun e => by have := hge b e.symm; omega)]
              exact Below.heap_setCell _ _ _ _ hne
            refine ⟨l ++ [(X : Int)], by simp; omega, by simp, by simpa using hown3, by simpa using HX2, HTt.out.blocks (keep g (by omega) (by omega)) (fun i hi => keep _ (by have := hBl.out i hi; omega) (by have := hBl.out i hi; omega)), ?_, ?_, ?_⟩
            · have h3 := (HDd.out.set X (.bool true)).of_block (w' := w3) (hgr3.block w1.heap.size (by simp; omega) (fun e => by have := hge _ e.symm; omega))
              refine h3.congr fun j hj => ?_
              rw [hasInt_snoc]
              by_cases e : j = X
              · rw [if_pos e, e]; simp
              · rw [if_neg e]
                have : decide ((X : Int) = (j : Int)) = false := decide_eq_false (by omega)
                rw [this, Bool.or_false]
            · exact (hB.setCell (p := ⟨w1.heap.size, X, none⟩) (by show w.heap.size ≤ w1.heap.size; exact h1s) _).grown hgr3 (by simp; omega) (fun b hb => by have := hge b hb; omega)
            · exact Nat.le_trans hsz hgr3.size
        · obtain ⟨c, rfl⟩ : ∃ c, k = c + 1 := ⟨k - 1, by omega⟩
          obtain rfl : I = (c : Int) := by omega
          clear hI hk0
          have q0 : (0 : Int) ≤ c := by omega
          have q1 : (c : Int) < cs.length := by omega
          have hce := HDd.out.cell (i := c) (by omega)
          go_wp2
          go_loopg [8, 9] cs.length (fun m ov av wx => ∃ (a : Nat) (ok : Bool), a ≤ cs.length ∧ m = cs.length - a ∧ ov = .bool ok ∧ Aside (ok = P.rok R l c a) ∧ av = .int .i64 a ∧ wx = wr)
          case atStart => exact ⟨0, _, Nat.zero_le _, rfl, rfl, rfl, rfl, rfl⟩
          case round =>
            clear hce
            obtain ⟨a, ok, ha, rfl, rfl, HK, rfl, rfl⟩ := hrel
            by_cases hal : a < cs.length
            · have d1 := HDd.out.cell (i := a) (by omega)
              have d2 := HTt.out.out a (by omega)
              have d3 := HTt.out.get (i := a) (j := c) (by omega) (by omega)
              have p0 : (0 : Int) ≤ a := by omega
              have p1 : (a : Int) < cs.length := by omega
              have HK2 : Aside (P.rok R l c (a + 1) = (ok && (!R a c || P.hasInt l a))) := by show _ = _; rw [P.rok, HK.out]
              clear HK
              generalize R a c = t1 at d3 HK2
              generalize P.hasInt l (a : Int) = t2 at d1 HK2
              cases ok <;> cases t1 <;> cases t2 <;>
              ( go_wp2
                go_roundg (cs.length - (a + 1))
                case measure => omega
                case rel => exact ⟨a + 1, _, by omega, rfl, rfl, HK2.out.symm, by go_num, rfl⟩ )
            · obtain rfl : a = cs.length := by omega
              cases ok
              · go_wp2
                go_roundg c
                case measure => omega
                case rel => exact ⟨c, X, (c : Int) - 1, by omega, rfl, rfl, by go_num, rfl, Nx.no HX.out HK.out.symm, rfl⟩
              · go_wp2
                go_roundg c
                case measure => omega
                case rel => exact ⟨c, c, (c : Int) - 1, by omega, rfl, rfl, by go_num, rfl, Nx.yes (p := fun c => P.rok R l c cs.length) (by omega) HK.out.symm, rfl⟩
    · have hle : l.length = cs.length := by omega
      have HE2 : Aside (l = P.orderL legs souls cs bs) := by
        show _ = _
        rw [HO.out, ← HE.out, hle, Nat.sub_self]
        rfl
      go_wp2
      go_ret
      refine ⟨_, rfl, ?_, hB⟩
      rw [← HE2.out]
      refine ⟨hown.1, ?_⟩
      rcases hown.2 with h | ⟨g', cap', cur, h1, h2, r⟩
      · exact .inl h
      · exact .inr ⟨g', cap', cur, h1, by have := hDl; omega, r⟩

end Go.Proofs.Ytnadhpemmehedaa
