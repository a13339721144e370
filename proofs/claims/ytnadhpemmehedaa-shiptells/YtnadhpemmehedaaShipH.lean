/- The walk of Order. -/
import Derived.Test.YtnadhpemmehedaaShipG
import Derived.Deep.Onto
namespace Go.Proofs.Ytnadhpemmehedaa
open Go.RowKit Go.Maps Go.WideMaps
set_option linter.unusedSimpArgs false
set_option linter.unusedVariables false

/-- The value v is a slice of the call's own (blocks from base on) that holds the numbers l. -/
abbrev OwnI (w : World) (base : Nat) (v : Value) (l : List Int) : Prop := w.ownsRow base 3 1 v l.length (l.map (Value.int .i64))
theorem Try.infoInt : (Try.prog.info? 3).map (fun i => (i.zero, i.size, i.bytes)) = some (some (.int .i64 0), 1, 8) := by kernel_rfl

theorem OwnI.at {w : World} {base : Nat} {v : Value} {l : List Int} (h : OwnI w base v l) : ∃ ao cap, v = .slice ao l.length cap ∧ IntsAt w ao cap l := by
  rcases h.2 with ⟨rfl, h0⟩ | ⟨g, cap, cur, rfl, hb, hg, hn, hm, hs, ht⟩
  · refine ⟨none, 0, by rw [h0], by omega, by simp [maxLen], fun _ => rfl, by omega⟩
  · refine ⟨some ⟨g, 0, none⟩, cap, rfl, hn, hm, (fun h => by cases h), fun h0 => ⟨g, 0, rfl, ?_, fun i hi => ?_⟩⟩
    · rcases Nat.lt_or_ge g w.heap.size with hlt | hge
      · exact hlt
      · rw [Array.getElem?_eq_none hge] at hg; cases hg
    · refine ⟨[.int .i64 l[i]], rfl, rfl, fun j u hj => ?_⟩
      have k0 := World.ownsRow.cellAt h i (by omega)
      match j, hj with
      | 0, hj =>
        simp at hj
        subst hj
        simpa [hi] using k0

theorem OwnI.below {w w' : World} {base : Nat} {v : Value} {l : List Int} (h : OwnI w base v l) (hb : Below w.heap.size w w') : OwnI w' base v l := by
  refine ⟨h.1, ?_⟩
  rcases h.2 with h2 | ⟨g, cap, cur, hv, hg, hh, r⟩
  · exact Or.inl h2
  · refine Or.inr ⟨g, cap, cur, hv, hg, ?_, r⟩
    rw [hb.block g (Array.getElem?_eq_some_iff.1 hh).1]
    exact hh

theorem grownI_below {w W0 w' : World} {base : Nat} {v : Value} {l : List Int} (hB : Below w.heap.size w W0) (hown : OwnI W0 base v l) (hb : w.heap.size ≤ base) (hg : W0.grownBy w' v.ownBlock) : Below w.heap.size w w' :=
  hB.grown hg hB.size (fun j hj => Nat.le_trans hb (hown.lt j hj).1)

theorem news_one {w : World} (a : Int) (t : TypeId) : ∀ j u, ([.int .i64 a] : List Value)[j]? = some u → (w.alloc (.cells #[.int .i64 a] t)).cell? ((⟨w.heap.size, 0, none⟩ : Addr).add j) = some u := by
  intro j u hu
  match j, hu with
  | 0, hu => simp at hu; subst hu; simp [Addr.add]

theorem grownA {w w' : World} {o : Obj} {row : Option Nat} (h : (w.alloc o).grownBy w' row) : w.grownBy w' row :=
  ⟨h.os, h.tape, h.output, Nat.le_trans (by simp) h.size, fun k hk hr => (h.block k (by simp; omega) hr).trans (Below.heap_alloc w o k hk)⟩

/-- 'append(v, n)', n laid into a block of its own just ahead. -/
theorem wpList_append_int {ops : Array Oper} {rest : List Oper} {o : Oper} {a : Act} {Q : Exit → Act → World → Prop} {W0 : World} (hgd : o.guard = none) (s x : Operand)
    (ho : o.op = .call { callee := .builtin .append, args := #[s, x], argTypes := #[47, 47] }) (base : Nat) (v : Value) (l : List Int) (n : Int) (hs : a.eval s = v) (hown : OwnI W0 base v l)
    (hx : a.eval x = .slice (some ⟨W0.heap.size, 0, none⟩) 1 1) (hb : base ≤ W0.heap.size) (hn : l.length ≤ 1000000)
    (h : ∀ v' w', OwnI w' base v' (l ++ [n]) → W0.grownBy w' v.ownBlock → wpList Try.prog ops Q rest (a.put o.dst v') w') : wpList Try.prog ops Q (o :: rest) a (W0.alloc (.cells #[.int .i64 n] 3)) := by
  obtain ⟨i0, hi, hi0, hi1, hi2⟩ := info_parts Try.infoInt
  refine wpList_append_own _ hgd s x 47 ho base 3 i0 _ 1 8 Try.underlying47 hi hi0 hi1 hi2 rfl (by decide) v l.length (l.map (Value.int .i64)) hs (World.ownsRow.alloc hown _) ⟨W0.heap.size, 0, none⟩ 1 1 [.int .i64 n] hx rfl (news_one n _) (by simp; exact rfl) (by simp only [maxLen]; omega) (by omega) (by simp; omega) ?_
  intro v' w' h1 h2 _
  refine h v' w' ?_ (grownA h2)
  simpa [OwnI] using h1

def P.order (T : Tab) (n : Nat) : Nat → List Int → List Int
  | 0, l => l
  | f + 1, l => if P.least (P.may T n l) n < n then P.order T n f (l ++ [(P.least (P.may T n l) n : Int)]) else l
def P.orderL (legs souls : Int) (cs : List Cat) (bs : List Cab) : List Int := if P.shipE legs souls cs bs = 0 then P.order (P.war (P.base cs) cs.length) cs.length cs.length [] else []

theorem least_le (p : Nat → Bool) (n : Nat) : P.least p n ≤ n := by
  have := List.findIdx_le_length (p := p) (xs := List.range n)
  simpa [P.least] using this
theorem least_yes {p : Nat → Bool} {n : Nat} (h : P.least p n < n) : p (P.least p n) = true := by
  unfold P.least at *
  have h2 : (List.range n).findIdx p < (List.range n).length := by simpa using h
  have := List.findIdx_getElem (w := h2)
  simpa using this
theorem order_stop {T : Tab} {n f : Nat} {l : List Int} (h : ¬ P.least (P.may T n l) n < n) : P.order T n f l = l := by
  cases f with
  | zero => rfl
  | succ f => rw [P.order, if_neg h]
theorem pigeon : ∀ (n : Nat) (l : List Int), l.Nodup → (∀ x ∈ l, 0 ≤ x ∧ x < (n : Int)) → l.length ≤ n := by
  intro n
  induction n with
  | zero =>
    intro l _ hl
    cases l with
    | nil => simp
    | cons y l => have := hl y (by simp); omega
  | succ n ih =>
    intro l hn hl
    by_cases hm : (n : Int) ∈ l
    · have := ih (l.erase n) (hn.erase _) (fun x hx => by
        have h3 := hl x (List.mem_of_mem_erase hx)
        have h4 : x ≠ n := by
          intro e
          rw [e] at hx
          exact hn.not_mem_erase hx
        omega)
      rw [List.length_erase_of_mem hm] at this
      omega
    · have := ih l hn (fun x hx => by
        have h3 := hl x hx
        have h4 : x ≠ n := fun e => hm (e ▸ hx)
        omega)
      omega
theorem hasInt_mem (l : List Int) (n : Int) : P.hasInt l n = true ↔ n ∈ l := by
  unfold P.hasInt
  rw [List.any_eq_true]
  constructor
  · rintro ⟨x, hx, h⟩; simp at h; exact h ▸ hx
  · intro h; exact ⟨n, h, by simp⟩

/-- A function value stored into a new variable. -/
theorem store_func (p : Option Addr) (W : World) (b : Nat) (hb : W.heap.size = b) : (store ⟨b, 0, none⟩ (.func (.func 44) #[] #[.pointer p])).run Try.prog (W.alloc (.cells #[.nilFunc] 65)) = .ok () (W.alloc (.cells #[.func (.func 44) #[] #[.pointer p]] 65)) := by
  subst hb
  have hv : (Value.func (.func 44) #[] #[.pointer p]).oneCell' = true := rfl
  simp [run_store _ _ _ _ _ hv]
  rw [World.setCell_alloc_at (hn := rfl)]
  simp

theorem below_none {w w' : World} (h : w.grownBy w' none) : Below w.heap.size w w' := ⟨h.os, h.tape, h.output, h.size, fun k hk => h.block k hk (by simp)⟩

theorem ord_new {w : World} {gn gT n : Nat} {T : Tab} (hn : w.cell? ⟨gn, 0, none⟩ = some (.int .i64 n)) (hT : TabAt w gT T) :
    OrdAt (((w.alloc (.map #[] 0)).alloc (.cells #[.map (some w.heap.size)] 69)).alloc (.cells #[.func (.func 44) #[] #[.pointer (some ⟨w.heap.size + 1, 0, none⟩)]] 65)) (w.heap.size + 1) w.heap.size (w.heap.size + 1 + 1) gn gT n T [] := by
  have hb : Below w.heap.size w (((w.alloc (.map #[] 0)).alloc (.cells #[.map (some w.heap.size)] 69)).alloc (.cells #[.func (.func 44) #[] #[.pointer (some ⟨w.heap.size + 1, 0, none⟩)]] 65)) := by go_grown
  refine ⟨?_, ?_, ?_, cellIn hb hn, hT.below hb⟩
  · have : ((w.alloc (.map #[] 0)).alloc (.cells #[.map (some w.heap.size)] 69)).cell? ⟨w.heap.size + 1, 0, none⟩ = some (.map (some w.heap.size)) := by
      simp
    exact cellIn (by go_grown) this
  · exact ((ISet.made w).alloc _).alloc _
  · have h := _root_.Go.heap_alloc_new ((w.alloc (.map #[] 0)).alloc (.cells #[.map (some w.heap.size)] 69)) (.cells #[.func (.func 44) #[] #[.pointer (some ⟨w.heap.size + 1, 0, none⟩)]] 65)
    have e : ((w.alloc (.map #[] 0)).alloc (.cells #[.map (some w.heap.size)] 69)).heap.size = w.heap.size + 1 + 1 := by simp
    rw [e] at h
    simp only [World.cell?, h]
    rfl

theorem OrdAt.grown {w w' : World} {gm M gw gn gT : Nat} {n : Nat} {T : Tab} {l : List Int} {row : Option Nat} (h : OrdAt w gm M gw gn gT n T l) (hg : w.grownBy w' row) (h1 : some gm ≠ row) (h2 : some M ≠ row) (h3 : some gw ≠ row) (h4 : some gn ≠ row) (h5 : some gT ≠ row) : OrdAt w' gm M gw gn gT n T l :=
  ⟨hg.cell h.map h1, World.ownsMap.kept h.set hg h2, hg.cell h.wait h3, hg.cell h.num h4, World.rowIs.of_block h.tab (hg.block gT h.tab.lt h5)⟩
theorem OrdAt.put {w w' : World} {gm M gw gn gT : Nat} {n : Nat} {T : Tab} {l l' : List Int} (h : OrdAt w gm M gw gn gT n T l) (hg : w.grownBy w' (some M)) (hs : ISet w' M l') (h1 : gm ≠ M) (h3 : gw ≠ M) (h4 : gn ≠ M) (h5 : gT ≠ M) : OrdAt w' gm M gw gn gT n T l' :=
  ⟨hg.cell h.map (by simpa using h1), hs, hg.cell h.wait (by simpa using h3), hg.cell h.num (by simpa using h4), World.rowIs.of_block h.tab (hg.block gT h.tab.lt (by simpa using h5))⟩

/-- Who may stand does not stand. -/
theorem may_new {T : Tab} {n : Nat} {l : List Int} {k : Nat} (h : P.may T n l k = true) : ¬ (k : Int) ∈ l := by
  intro hm
  have := (hasInt_mem l k).2 hm
  simp [P.may, this] at h

set_option maxHeartbeats 4000000 in
theorem order_any (legs souls : Int) (cao bao : Option Addr) (cc bc : Nat) (cs : List Cat) (bs : List Cab) (w : World) (hs : ShipAt w cao bao cc bc cs bs) :
    Calls Try.prog 25 #[.agg #[.int .i64 legs, .int .i64 souls, .slice cao cs.length cc, .slice bao bs.length bc]] w fun e w' => ∃ v', e = .returned (.tuple #[v', .int .i64 (P.shipE legs souls cs bs)]) ∧ OwnI w' w.heap.size v' (P.orderL legs souls cs bs) ∧ Below w.heap.size w w' := by
  cases h1 : (P.shipE legs souls cs bs != 0)
  · have h1' : P.shipE legs souls cs bs = 0 := by simpa using h1
    obtain ⟨hc1, hc5, hok, _, _⟩ := ship_ok h1'
    have HO : Aside (∀ c ∈ cs, ∀ h ∈ c.2, 0 ≤ h ∧ h < cs.length) := fun c hc h hx => by have := high_ok (hok c hc) h hx; omega
    have HL : Aside (P.orderL legs souls cs bs = P.order (P.war (P.base cs) cs.length) cs.length cs.length []) := by show _ = _; rw [P.orderL, if_pos h1']
    have HE : Aside (P.shipE legs souls cs bs = 0) := h1'
    have hmm := @run_makeMap Try.prog
    obtain ⟨i0, hi, hi0, hi1, hi2⟩ := info_parts Try.infoInt
    have hoc := store_func
    clear h1' hok
    go_enter Try.func25, Try.ntmps25
    go_wp2_with (first
      | (go_at_call 28; refine (shipCheck_any _ _ _ _ _ _ cs bs _ (hs.below (by go_grown))).mono ?_; rintro e w1 ⟨rfl, hbb1⟩; obtain ⟨hcc1, _⟩ := bcell hbb1; have hw1 : Below w.heap.size w w1 := bvia (by go_grown) hbb1; have hz1 : w.heap.size < w1.heap.size := by (have := hbb1.size; simp at this; omega))
      | (go_at_call 43; refine (whoServes_any _ _ cs _ ((hs.below hw1).below (by go_grown)).cats hc5 HO.out).mono ?_; rintro e w2 ⟨rfl, hbb2⟩; have hgn2 : w2.cell? ⟨w1.heap.size, 0, none⟩ = some (.int .i64 cs.length) := cellIn hbb2 (by simp); have hw2 : Below w.heap.size w w2 := bvia (bvia hw1 (by go_grown)) hbb2)
      | (refine wpList_store_tab rfl (.tmp 6) (.tmp 22) rfl (P.war (P.base cs) cs.length) rfl rfl ?_; intro w3 hT3 hb3 hlt3; have hgn3 := cellIn hb3 hgn2; have hgnl : w1.heap.size < w3.heap.size := World.block_lt_of_cell? w3 _ hgn3; have hw3 := bvia hw2 hb3; have hO3 := ord_new hgn3 hT3; have hgnl1 : w1.heap.size < w3.heap.size + 1 := (by omega); have hgnl2 : w1.heap.size < w3.heap.size + 1 + 1 := (by omega))
      | (at_make; refine wpList_make_own _ rfl _ _ 47 rfl (w3.heap.size + 3) 3 i0 _ 1 Try.underlying47 hi hi0 hi1 _ _ _ cs.length rfl rfl rfl (by rw [hi2]; omega) (by unfold maxLen; omega) (by simp) ?_; intro w5 hown5 hgrow5; have hb5 := below_none hgrow5; have hO5 := hO3.below hb5; have hw5 : Below w.heap.size w w5 := bvia (bvia hw3 (by go_grown)) hb5; have hgn5 := hO5.num))
    have hT2l : w2.heap.size < w3.heap.size := hT3.lt
    refine (firstMay_any _ _ _ _ _ cs.length (P.war (P.base cs) cs.length) [] w5 hO5 hc5).mono ?_
    rintro e w6 ⟨rfl, hb6⟩
    have hO6 := hO5.below hb6
    have hown6 : OwnI w6 (w3.heap.size + 3) (.slice (some ⟨(((w3.alloc (.map #[] 0)).alloc (.cells #[.map (some w3.heap.size)] 69)).alloc (.cells #[.func (.func 44) #[] #[.pointer (some ⟨w3.heap.size + 1, 0, none⟩)]] 65)).heap.size, 0, none⟩) 0 cs.length) [] := OwnI.below hown5 hb6
    have hw6 := bvia hw5 hb6
    have hs6 : w3.heap.size + 3 ≤ w6.heap.size := by
      have h1 := hb5.size
      have h2 := hb6.size
      simp at h1
      omega
    simp only [World.size_alloc] at hown6
    generalize P.war (P.base cs) cs.length = T at hO6 HL ⊢
    clear hO5 hO3 hown5 hgrow5 hb5 hb6 hgn5 hw5 hT3 hgn3 hb3 hw3 hgn2 hbb2 hw2 hbb1 hcc1 hw1 hmm hoc hlt3
    go_wp2_with fail
    go_loopg [10, 11] (cs.length + 1) (fun g v nx wr => ∃ (l : List Int), nx = .int .i64 (P.least (P.may T cs.length l) cs.length) ∧ g = cs.length + 1 - l.length ∧ OwnI wr (w3.heap.size + 3) v l ∧ OrdAt wr (w3.heap.size + 1) w3.heap.size (w3.heap.size + 1 + 1) w1.heap.size w2.heap.size cs.length T l ∧
        l.Nodup ∧ (∀ x ∈ l, 0 ≤ x ∧ x < (cs.length : Int)) ∧ P.order T cs.length (cs.length - l.length) l = P.order T cs.length cs.length [] ∧ w3.heap.size + 3 ≤ wr.heap.size ∧ Below w.heap.size w wr)
    case atStart => exact ⟨[], rfl, rfl, hown6, hO6, List.nodup_nil, (by simp), rfl, hs6, hw6⟩
    case round =>
      clear hown6 hO6 hs6 hw6
      obtain ⟨l, rfl, rfl, hown, hO, hnd, hbd, hP, hsz, hB⟩ := hrel
      have hlen := pigeon _ l hnd hbd
      have hgn := hO.num
      have HX : Aside (l.Nodup ∧ (∀ x ∈ l, 0 ≤ x ∧ x < (cs.length : Int)) ∧ P.order T cs.length (cs.length - l.length) l = P.order T cs.length cs.length []) := ⟨hnd, hbd, hP⟩
      clear hnd hbd hP
      have hle := least_le (P.may T cs.length l) cs.length
      generalize hK : P.least (P.may T cs.length l) cs.length = k at hle
      have HK : Aside (P.least (P.may T cs.length l) cs.length = k) := hK
      clear hK
      by_cases hlt : k < cs.length
      · have hnew : ¬ (k : Int) ∈ l := may_new (by have := least_yes (p := P.may T cs.length l) (n := cs.length) (by rw [HK.out]; exact hlt); rw [HK.out] at this; exact this)
        have hnd2 : (l ++ [(k : Int)]).Nodup := List.nodup_append.2 ⟨HX.out.1, by simp, by intro x hx y hy; simp at hy; subst hy; intro e; exact hnew (e ▸ hx)⟩
        have hbd2 : ∀ x ∈ l ++ [(k : Int)], 0 ≤ x ∧ x < (cs.length : Int) := by
          intro x hx
          rcases List.mem_append.1 hx with hx | hx
          · exact HX.out.2.1 x hx
          · simp at hx; subst hx; omega
        have hlen2 := pigeon _ _ hnd2 hbd2
        simp at hlen2
        have hP2 : P.order T cs.length (cs.length - (l ++ [(k : Int)]).length) (l ++ [(k : Int)]) = P.order T cs.length cs.length [] := by
          have h3 := HX.out.2.2
          rw [show cs.length - l.length = (cs.length - (l.length + 1)) + 1 by omega, P.order, HK.out, if_pos hlt] at h3
          simpa using h3
        have HX2 : Aside _ := And.intro hnd2 (And.intro hbd2 hP2)
        clear hnd2 hbd2 hP2 HX hnew
        have hwf : (Lit.int .i64 (k : Int)).wf = true := WalkArith.wf_i64 (by omega)
        have hset := hO.set
        have hmap := hO.map
        go_wp2_with (first
          | (at_mapUpdate; refine wpList_mapUpdate_own _ rfl _ _ _ 69 rfl 3 70 Try.lawI Try.underlying69 _ w3.heap.size l.length _ rfl hset (by simp only [maxLen]; omega) _ _ (P.litI k) rfl rfl (keyOf_int_mk Try.underlying3 hwf) _ [] unitElem_mk ?_; intro w7 hset7 hgrow7; have hO7 := hO.put hgrow7 (l' := l ++ [(k : Int)]) (by show World.ownsMap _ _ _ _ _ _ _; rw [List.map_append, List.map_cons, List.map_nil, setOf_snoc, List.length_append]; exact hset7) (by omega) (by omega) (by omega) (by omega); have hown7 : OwnI w7 (w3.heap.size + 3) _ l := World.ownsRow.kept hown hgrow7 (.inr (fun e => by have := (hown.lt _ e).1; omega)); have hB7 := grown_below_map hB (B := w3.heap.size) (by omega) hgrow7; have hs7 := hgrow7.size)
          | (at_builtin; refine wpList_append_int rfl (.tmp 40) (.tmp 42) rfl (w3.heap.size + 3) _ l k rfl hown7 rfl (by omega) (by omega) ?_; intro v8 w8 hown8 hgrow8; have hne8 : ∀ g, g < w3.heap.size + 3 → some g ≠ _ := (fun g hg e => by have := (hown7.lt g e.symm).1; omega); have hO8 := hO7.grown hgrow8 (hne8 _ (by omega)) (hne8 _ (by omega)) (hne8 _ (by omega)) (hne8 _ (by omega)) (hne8 _ (by omega)); have hB8 := grownI_below hB7 hown7 (by omega) hgrow8; have hs8 := hgrow8.size; have hgn8 := hO8.num)
          | (go_at_call 48; refine (firstMay_any _ _ _ _ _ cs.length T _ w8 hO8 hc5).mono ?_; rintro e w9 ⟨rfl, hb9⟩))
        go_roundg (cs.length + 1 - (l ++ [(k : Int)]).length)
        case measure => simp; omega
        case rel => exact ⟨l ++ [(k : Int)], rfl, rfl, OwnI.below hown8 hb9, hO8.below hb9, HX2.out.1, HX2.out.2.1, HX2.out.2.2, by have := hb9.size; omega, bvia hB8 hb9⟩
      · obtain rfl : k = cs.length := by omega
        go_wp2
        go_ret2
        refine ⟨_, ret2_int HE.out.symm, ?_, hB⟩
        rw [HL.out, ← HX.out.2.2, order_stop (by rw [HK.out]; omega)]
        exact World.ownsRow.mono hown (by omega)
  · have HE : Aside (P.orderL legs souls cs bs = []) := by show _ = _; rw [P.orderL, if_neg (by simpa using h1)]
    go_enter Try.func25, Try.ntmps25
    go_wp2_with (go_at_call 28; refine (shipCheck_any _ _ _ _ _ _ cs bs _ (hs.below (by go_grown))).mono ?_; rintro e w1 ⟨rfl, hbb1⟩)
    go_ret2
    exact ⟨_, rfl, by rw [HE.out]; exact World.ownsRow_nil _ _ _ _, bvia (by go_grown) hbb1⟩

end Go.Proofs.Ytnadhpemmehedaa
