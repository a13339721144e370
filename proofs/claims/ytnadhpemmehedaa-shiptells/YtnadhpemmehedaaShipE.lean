/- Walks of inCircle, Check, Serves of package ship. -/
import Derived.Test.YtnadhpemmehedaaShipD
namespace Go.Proofs.Ytnadhpemmehedaa
open Go.RowKit Go.Maps Go.WideMaps
set_option linter.unusedSimpArgs false
set_option linter.unusedVariables false

set_option maxHeartbeats 1000000 in
theorem circle2_any (B gi gh i j : Nat) (T : Tab) (hs : List Int) (hao : Option Addr) (hcap : Nat) (w : World) (hT : TabAt w B T) (hgi : w.cell? ⟨gi, 0, none⟩ = some (.int .i64 i)) (hgh : w.cell? ⟨gh, 0, none⟩ = some (.slice hao hs.length hcap))
    (hin : IntsAt w hao hcap hs) (hi : i < 5) (hj : j < hs.length) (hh : ∀ h ∈ hs, 0 ≤ h ∧ h < 5) :
    Calls Try.prog 58 #[.int .i64 j, .pointer (some ⟨B, 0, none⟩), .pointer (some ⟨gi, 0, none⟩), .pointer (some ⟨gh, 0, none⟩)] w fun e w' => e = .returned (.bool (T i (hs.getD j 0).toNat)) ∧ Below w.heap.size w w' := by
  obtain ⟨b, off, h, rfl, hbw, hd, hc⟩ := hin.get (Below.refl _ _) j hj
  have hm := hin.max
  have hl := hin.le
  unfold maxLen at hm
  have hmem : h ∈ hs := by
    have := List.mem_cons_self (a := h) (l := hs.drop (j + 1))
    rw [← hd] at this
    exact List.mem_of_mem_drop this
  obtain ⟨h0, h1⟩ := hh h hmem
  obtain ⟨H, rfl⟩ : ∃ H : Nat, h = H := ⟨h.toNat, by omega⟩
  have HG : Aside ((hs.getD j 0).toNat = H) := by
    have e := List.drop_eq_getElem_cons hj
    rw [hd] at e
    simp only [List.cons.injEq] at e
    show _ = _
    rw [List.getD_eq_getElem?_getD, List.getElem?_eq_getElem hj, ← e.1]
    simp
  have hce := hT.get (a := i) (b := H) hi (by omega)
  clear hd hT hh hin
  have i1 : (i : Int) < 5 := by omega
  have i2 : (0 : Int) ≤ i := by omega
  have i3 : (H : Int) < 5 := by omega
  have i4 : (0 : Int) ≤ H := by omega
  have i5 : (j : Int) < hs.length := by omega
  have i6 : (0 : Int) ≤ j := by omega
  rw [HG.out]
  go_enter Try.func58, Try.ntmps58
  go_wp2
  go_quiet (fail)
  go_wp2
  go_ret
  exact ⟨rfl, below_drewN (Below.refl _ _) _⟩

/-- The cells that inCircle's function literals read. -/
structure CircAt (w : World) (gl B : Nat) (ao : Option Addr) (cap : Nat) (l : List Cat) (T : Tab) : Prop where
  list : w.cell? ⟨gl, 0, none⟩ = some (.slice ao l.length cap)
  tab : TabAt w B T
  cats : CatsAt w ao cap l
theorem CircAt.below {w w' : World} {gl B : Nat} {ao : Option Addr} {cap : Nat} {l : List Cat} {T : Tab} (h : CircAt w gl B ao cap l T) (hb : Below w.heap.size w w') : CircAt w' gl B ao cap l T :=
  ⟨cellIn hb h.list, h.tab.below hb, SlAt.below RCat.mono h.cats hb⟩

theorem hasCircle2_any (B gi gh i : Nat) (T : Tab) (hs : List Int) (hao : Option Addr) (hcap : Nat) (w : World) (hT : TabAt w B T) (hgi : w.cell? ⟨gi, 0, none⟩ = some (.int .i64 i)) (hgh : w.cell? ⟨gh, 0, none⟩ = some (.slice hao hs.length hcap))
    (hin : IntsAt w hao hcap hs) (hi : i < 5) (hn : hs.length ≤ 1000) (hh : ∀ h ∈ hs, 0 ≤ h ∧ h < 5) :
    Calls Try.prog 46 #[.int .i64 hs.length, .func (.func 58) #[] #[.pointer (some ⟨B, 0, none⟩), .pointer (some ⟨gi, 0, none⟩), .pointer (some ⟨gh, 0, none⟩)]] w fun e w' => e = .returned (.bool (P.some (fun j => T i (hs.getD j 0).toNat) hs.length)) ∧ Below w.heap.size w w' := by
  refine has_any hs.length 58 _ (fun j => T i (hs.getD j 0).toNat) w hn (fun args wx => by go_simp) ?_
  intro k wx hk hbx
  rw [arr4]
  exact circle2_any B gi gh i k T hs hao hcap wx (hT.below hbx) (cellIn hbx hgi) (cellIn hbx hgh) (SlAt.below RInt.mono hin hbx) hi hk hh

def P.circAt (T : Tab) (l : List Cat) (i : Nat) : Bool := P.some (fun j => T i ((l.getD i (ByteArray.empty, [])).2.getD j 0).toNat) (l.getD i (ByteArray.empty, [])).2.length

set_option maxHeartbeats 1000000 in
theorem circle1_any (gl B i : Nat) (ao : Option Addr) (cap : Nat) (l : List Cat) (T : Tab) (w : World) (hc : CircAt w gl B ao cap l T) (hi : i < l.length) (hn : l.length ≤ 5) (hs5 : ∀ c ∈ l, c.2.length ≤ 1000) (hh : ∀ c ∈ l, ∀ h ∈ c.2, 0 ≤ h ∧ h < 5) :
    Calls Try.prog 57 #[.int .i64 i, .pointer (some ⟨gl, 0, none⟩), .pointer (some ⟨B, 0, none⟩)] w fun e w' => e = .returned (.bool (P.circAt T l i)) ∧ Below w.heap.size w w' := by
  obtain ⟨b, off, nm, hs, hao, hcap, rfl, hbw, hd, hc0, hc1, hin, hnm⟩ := hc.cats.get (Below.refl _ _) i hi
  have hle := hc.cats.le
  have hm := hc.cats.max
  unfold maxLen at hm
  have hgl := hc.list
  have HG : Aside (l.getD i (ByteArray.empty, []) = (nm, hs)) := by
    have h1 := List.drop_eq_getElem_cons hi
    rw [hd] at h1
    simp only [List.cons.injEq] at h1
    show _ = _
    rw [List.getD_eq_getElem?_getD, List.getElem?_eq_getElem hi, ← h1.1]
    rfl
  have hmem : (nm, hs) ∈ l := by
    have := List.mem_cons_self (a := (nm, hs)) (l := l.drop (i + 1))
    rw [← hd] at this
    exact List.mem_of_mem_drop this
  have HH : Aside (∀ h ∈ hs, 0 ≤ h ∧ h < 5) := hh _ hmem
  have hsl : hs.length ≤ 1000 := hs5 _ hmem
  have hT := hc.tab
  have hTl := hT.lt
  have hgll := World.block_lt_of_cell? w _ hgl
  clear hd hmem hs5 hh
  rw [P.circAt, HG.out]
  simp only
  go_enter Try.func57, Try.ntmps57
  go_wp2_with fail
  refine (hasCircle2_any B w.heap.size (w.heap.size + 1) i T hs hao hcap _ ((hT.below (by go_grown))) (by simp) (by simp) (SlAt.below RInt.mono hin (by go_grown)) (by omega) hsl HH.out).mono ?_
  rintro e w1 ⟨rfl, hb1⟩
  go_wp2
  go_ret
  exact ⟨rfl, bvia (by go_grown) hb1⟩

theorem hasCircle1_any (gl B : Nat) (ao : Option Addr) (cap : Nat) (l : List Cat) (T : Tab) (w : World) (hc : CircAt w gl B ao cap l T) (hn : l.length ≤ 5) (hs5 : ∀ c ∈ l, c.2.length ≤ 1000) (hh : ∀ c ∈ l, ∀ h ∈ c.2, 0 ≤ h ∧ h < 5) :
    Calls Try.prog 46 #[.int .i64 l.length, .func (.func 57) #[] #[.pointer (some ⟨gl, 0, none⟩), .pointer (some ⟨B, 0, none⟩)]] w fun e w' => e = .returned (.bool (P.some (P.circAt T l) l.length)) ∧ Below w.heap.size w w' := by
  refine has_any l.length 57 _ (P.circAt T l) w (by omega) (fun args wx => by go_simp) ?_
  intro k wx hk hbx
  rw [arr3]
  exact circle1_any gl B k ao cap l T wx (hc.below hbx) hk hn hs5 hh

theorem tab_new (w : World) : TabAt (w.alloc (.cells #[.bool false, .bool false, .bool false, .bool false, .bool false, .bool false, .bool false, .bool false, .bool false, .bool false, .bool false, .bool false, .bool false, .bool false, .bool false, .bool false, .bool false, .bool false, .bool false, .bool false, .bool false, .bool false, .bool false, .bool false, .bool false] 67)) w.heap.size (fun _ _ => false) := World.rowIs_alloc w _ _ _ (fun i hi => zeros25 i hi)

/-- A table stored whole into a new block. -/
theorem tab_stored (w : World) (T : Tab) : TabAt ((w.alloc (.cells #[.bool false, .bool false, .bool false, .bool false, .bool false, .bool false, .bool false, .bool false, .bool false, .bool false, .bool false, .bool false, .bool false, .bool false, .bool false, .bool false, .bool false, .bool false, .bool false, .bool false, .bool false, .bool false, .bool false, .bool false, .bool false] 67)).setCells w.heap.size 0 (P.row T)) w.heap.size T := by
  have h0 : TabAt (w.alloc (.cells #[.bool false, .bool false, .bool false, .bool false, .bool false, .bool false, .bool false, .bool false, .bool false, .bool false, .bool false, .bool false, .bool false, .bool false, .bool false, .bool false, .bool false, .bool false, .bool false, .bool false, .bool false, .bool false, .bool false, .bool false, .bool false] 67)) w.heap.size (fun _ _ => false) := World.rowIs_alloc w _ _ _ (fun i hi => zeros25 i hi)
  have key : ∀ (vs : List Value) (o : Nat) (u : World) (f : Nat → Value), u.rowIs w.heap.size 67 25 f → (u.setCells w.heap.size o vs).rowIs w.heap.size 67 25 (fun i => if o ≤ i ∧ i < o + vs.length then vs.getD (i - o) undef else f i) := by
    intro vs
    induction vs with
    | nil => intro o u f h; exact World.rowIs.congr h (fun i _ => by rw [if_neg (by simp)])
    | cons v vs ih =>
      intro o u f h
      refine World.rowIs.congr (ih (o + 1) _ _ (World.rowIs.set h o v)) fun i _ => ?_
      by_cases e : i = o
      · subst e
        rw [if_neg (by omega), if_pos rfl, if_pos (by simp)]
        simp
      · by_cases e2 : o + 1 ≤ i ∧ i < o + 1 + vs.length
        · rw [if_pos e2, if_pos (by simp; omega)]
          rw [show i - o = (i - (o + 1)) + 1 by omega]
          simp
        · rw [if_neg e2, if_neg e, if_neg (by simp; omega)]
  refine World.rowIs.congr (key (P.row T) 0 _ _ h0) fun i hi => ?_
  rw [if_pos (by simp [P.row]; omega)]
  simp [P.row, List.getD_eq_getElem?_getD, hi]

theorem wpList_store_tab {ops : Array Oper} {rest : List Oper} {op : Oper} {a : Act} {Q : Exit → Act → World → Prop} {w1 : World} (hgd : op.guard = none) (x y : Operand) (ho : op.op = .store 67 x y) (T : Tab)
    (hx : a.eval x = .pointer (some ⟨w1.heap.size, 0, none⟩)) (hy : a.eval y = .agg (P.row T).toArray)
    (h : ∀ w2, TabAt w2 w1.heap.size T → Below w1.heap.size w1 w2 → w1.heap.size < w2.heap.size → wpList Try.prog ops Q rest (a.put op.dst undef) w2) : wpList Try.prog ops Q (op :: rest) a (w1.alloc (.cells #[.bool false, .bool false, .bool false, .bool false, .bool false, .bool false, .bool false, .bool false, .bool false, .bool false, .bool false, .bool false, .bool false, .bool false, .bool false, .bool false, .bool false, .bool false, .bool false, .bool false, .bool false, .bool false, .bool false, .bool false, .bool false] 67)) := by
  have hth := TabAt.there (tab_new w1)
  have hrl : (P.row T).length = 25 := by simp [P.row]
  have h1 : ∀ v ∈ P.row T, v.oneCell' = true := by intro v hv; simp [P.row] at hv; obtain ⟨i, _, rfl⟩ := hv; rfl
  refine wpList_store_mid hgd 67 x y ho w1.heap.size 0 (P.row T).toArray hx hy (by simpa [hrl] using hth) (by simpa [hrl] using Try.sizeTab) (all_oneCell_toArray h1) ?_
  have hB : Below w1.heap.size w1 ((w1.alloc (.cells #[.bool false, .bool false, .bool false, .bool false, .bool false, .bool false, .bool false, .bool false, .bool false, .bool false, .bool false, .bool false, .bool false, .bool false, .bool false, .bool false, .bool false, .bool false, .bool false, .bool false, .bool false, .bool false, .bool false, .bool false, .bool false] 67)).setCells w1.heap.size 0 (P.row T)) := below_setCells ((Below.refl _ _).alloc (Nat.le_refl _) _) (Nat.le_refl _) _ _
  have hT := tab_stored w1 T
  exact h _ (by simpa using hT) (by simpa using hB) (by simpa using hT.lt)

theorem high_ok {n : Int} {l seen : List Int} (h : P.high n seen l = 0) : ∀ x ∈ l, 0 ≤ x ∧ x ≤ n - 1 := by
  induction l generalizing seen with
  | nil => simp
  | cons y l ih =>
    rw [P.high] at h
    split at h
    · rename_i hb
      split at h
      · omega
      · intro x hx
        rcases List.mem_cons.1 hx with rfl | hx
        · simp [P.btw] at hb; exact hb
        · exact ih h x hx
    · omega
/-- Numbers of a Higher that is right are different, and below n: so there are at most n. -/
theorem high_nodup {n : Int} {l seen : List Int} (h : P.high n seen l = 0) : l.Nodup ∧ ∀ x ∈ l, ¬ x ∈ seen := by
  induction l generalizing seen with
  | nil => simp
  | cons y l ih =>
    rw [P.high] at h
    split at h
    · split at h
      · omega
      · rename_i hs
        obtain ⟨h1, h2⟩ := ih h
        have hy : ¬ y ∈ seen := by
          intro hm
          apply hs
          unfold P.hasInt
          rw [List.any_eq_true]
          exact ⟨y, hm, by simp⟩
        refine ⟨List.nodup_cons.2 ⟨fun hm => h2 y hm (by simp), h1⟩, fun x hx => ?_⟩
        rcases List.mem_cons.1 hx with rfl | hx
        · exact hy
        · intro hm; exact h2 x hx (by simp [hm])
    · omega
theorem high_len {n : Nat} {l : List Int} (h : P.high n [] l = 0) : l.length ≤ n := by
  have h1 := high_ok h
  have h2 := (high_nodup h).1
  have key : ∀ (n : Nat) (l : List Int), l.Nodup → (∀ x ∈ l, 0 ≤ x ∧ x ≤ (n : Int) - 1) → l.length ≤ n := by
    intro n
    induction n with
    | zero =>
      intro l _ hl
      cases l with
      | nil => simp
      | cons y l => have := hl y (by simp); omega
    | succ n ih =>
      intro l hn hl
      by_cases hm : (n : Int) ∈ l
      · have := ih (l.erase n) (hn.erase _) (fun x hx => by
          have h3 := hl x (List.mem_of_mem_erase hx)
          have h4 : x ≠ n := by
            intro e
            rw [e] at hx
            exact hn.not_mem_erase hx
          omega)
        rw [List.length_erase_of_mem hm] at this
        omega
      · have := ih l hn (fun x hx => by
          have h3 := hl x hx
          have h4 : x ≠ n := fun e => hm (e ▸ hx)
          omega)
        omega
  exact key n l h2 h1

theorem cats_ok {n : Nat} {l : List Cat} {ns : List ByteArray} (h : P.cats n ns l = 0) : ∀ c ∈ l, P.high n [] c.2 = 0 := by
  induction l generalizing ns with
  | nil => simp
  | cons y l ih =>
    rw [P.cats] at h
    split at h
    · split at h
      · rename_i hh
        intro c hc
        rcases List.mem_cons.1 hc with rfl | hc
        · exact hh
        · exact ih h c hc
      · contradiction
    · contradiction

def P.circle (l : List Cat) : Bool := P.some (P.circAt (P.war (P.base l) l.length) l) l.length

set_option maxHeartbeats 1000000 in
theorem inCircle_any (ao : Option Addr) (cap : Nat) (l : List Cat) (w : World) (hl : CatsAt w ao cap l) (hn : l.length ≤ 5) (hok : ∀ c ∈ l, P.high l.length [] c.2 = 0) :
    Calls Try.prog 53 #[.slice ao l.length cap] w fun e w' => e = .returned (.bool (P.circle l)) ∧ Below w.heap.size w w' := by
  have hh : Aside (∀ c ∈ l, ∀ h ∈ c.2, 0 ≤ h ∧ h < l.length) := fun c hc h hx => by have := high_ok (hok c hc) h hx; omega
  have hh5 : Aside (∀ c ∈ l, ∀ h ∈ c.2, 0 ≤ h ∧ h < 5) := fun c hc h hx => by have := high_ok (hok c hc) h hx; omega
  have hs5 : Aside (∀ c ∈ l, c.2.length ≤ 1000) := fun c hc => by have := high_len (hok c hc); omega
  clear hok
  have HC : Aside (P.circle l = P.some (P.circAt (P.war (P.base l) l.length) l) l.length) := rfl
  go_enter Try.func53, Try.ntmps53
  go_wp2_with fail
  refine (whoServes_any _ _ l _ (SlAt.below RCat.mono hl (by go_grown)) hn hh.out).mono ?_
  rintro e w1 ⟨rfl, hb1⟩
  have hgl : w1.cell? ⟨w.heap.size, 0, none⟩ = some (.slice ao l.length cap) := cellIn hb1 (by simp)
  have hw1 : Below w.heap.size w w1 := bvia (by go_grown) hb1
  generalize P.war (P.base l) l.length = T at HC ⊢
  go_wp2_with (first
    | (refine wpList_store_tab rfl (.tmp 3) (.tmp 5) rfl T rfl rfl ?_; intro w2 hT2 hb2 hlt2; have hgl2 := cellIn hb2 hgl)
    | (go_at_call 46; refine (hasCircle1_any w.heap.size w1.heap.size ao cap l T w2 ⟨hgl2, hT2, SlAt.below RCat.mono hl (bvia hw1 hb2)⟩ hn hs5.out hh5.out).mono ?_; rintro e w3 ⟨rfl, hb3⟩))
  go_ret
  exact ⟨ret_bool HC.out.symm, bvia (bvia hw1 hb2) hb3⟩

def P.shipE (legs souls : Int) (cs : List Cat) (bs : List Cab) : Int :=
  if P.sizeE legs souls cs.length bs.length = 0 then
    (if P.cats cs.length [] cs = 0 then (if P.circle cs = true then 4 else P.cabs cs.length [] bs) else P.cats cs.length [] cs)
  else P.sizeE legs souls cs.length bs.length

theorem size_ok {legs souls : Int} {nc nb : Nat} (h : P.sizeE legs souls nc nb = 0) : 1 ≤ legs ∧ legs ≤ 7 ∧ 1 ≤ souls ∧ souls ≤ 60 ∧ 1 ≤ nc ∧ nc ≤ 5 ∧ 1 ≤ nb ∧ nb ≤ 12 := by
  unfold P.sizeE at h
  split at h
  · rename_i h1
    split at h
    · omega
    · rename_i h2
      split at h
      · omega
      · rename_i h3
        simp [P.btw] at h1 h2 h3
        omega
  · omega

/-- A ship in memory. -/
structure ShipAt (w : World) (cao bao : Option Addr) (cc bc : Nat) (cs : List Cat) (bs : List Cab) : Prop where
  cats : CatsAt w cao cc cs
  cabs : CabsAt w bao bc bs
theorem ShipAt.below {w w' : World} {cao bao : Option Addr} {cc bc : Nat} {cs : List Cat} {bs : List Cab} (h : ShipAt w cao bao cc bc cs bs) (hb : Below w.heap.size w w') : ShipAt w' cao bao cc bc cs bs :=
  ⟨SlAt.below RCat.mono h.cats hb, SlAt.below RCab.mono h.cabs hb⟩
abbrev V.ship (legs souls : Int) (cao bao : Option Addr) (cc bc : Nat) (cs : List Cat) (bs : List Cab) : Value := .agg #[.int .i64 legs, .int .i64 souls, .slice cao cs.length cc, .slice bao bs.length bc]

set_option maxHeartbeats 1000000 in
theorem shipCheck_any (legs souls : Int) (cao bao : Option Addr) (cc bc : Nat) (cs : List Cat) (bs : List Cab) (w : World) (hs : ShipAt w cao bao cc bc cs bs) :
    Calls Try.prog 28 #[.agg #[.int .i64 legs, .int .i64 souls, .slice cao cs.length cc, .slice bao bs.length bc]] w fun e w' => e = .returned (.int .i64 (P.shipE legs souls cs bs)) ∧ Below w.heap.size w w' := by
  cases h1 : (P.sizeE legs souls cs.length bs.length != 0)
  · have h1' : P.sizeE legs souls cs.length bs.length = 0 := by simpa using h1
    obtain ⟨_, _, _, _, hc1, hc5, hb1, hb12⟩ := size_ok h1'
    have HE : Aside (P.shipE legs souls cs bs = (if P.cats cs.length [] cs = 0 then (if P.circle cs = true then 4 else P.cabs cs.length [] bs) else P.cats cs.length [] cs)) := by show _ = _; rw [P.shipE, if_pos h1']
    clear h1'
    cases h2 : (P.cats cs.length [] cs != 0)
    · have h2' : P.cats cs.length [] cs = 0 := by simpa using h2
      rw [if_pos h2'] at HE
      have HO : Aside (∀ c ∈ cs, P.high cs.length [] c.2 = 0) := cats_ok h2'
      clear h2'
      cases h3 : P.circle cs
      · have HF : Aside (P.shipE legs souls cs bs = P.cabs cs.length [] bs) := by have := HE.out; rw [h3] at this; exact this
        clear HE
        go_enter Try.func28, Try.ntmps28
        go_wp2_with (first
          | (go_at_call 51; refine (checkSize_any _ _ _ _ _ _ _ _ _).mono ?_; rintro e w1 ⟨rfl, hbb1⟩; obtain ⟨hcc1, _⟩ := bcell hbb1; have hw1 : Below w.heap.size w w1 := bvia (by go_grown) hbb1; have hz1 : w.heap.size < w1.heap.size := by (have := hbb1.size; simp at this; omega))
          | (go_at_call 52; refine (checkCategories_any _ _ cs _ (hs.below hw1).cats (by omega)).mono ?_; rintro e w2 ⟨rfl, hbb2⟩; obtain ⟨hcc2, _⟩ := bcell hbb2; have hw2 := bvia hw1 hbb2; have hz2 : w.heap.size < w2.heap.size := by (have := hbb2.size; omega))
          | (go_at_call 53; refine (inCircle_any _ _ cs _ (hs.below hw2).cats hc5 HO.out).mono ?_; rintro e w3 ⟨rfl, hbb3⟩; rw [h3]; obtain ⟨hcc3, _⟩ := bcell hbb3; have hw3 := bvia hw2 hbb3)
          | (go_at_call 54; refine (checkCabins_any _ _ bs cs.length _ (hs.below hw3).cabs (by omega) (by omega)).mono ?_; rintro e w4 ⟨rfl, hbb4⟩; have hw4 := bvia hw3 hbb4))
        go_ret
        exact ⟨ret_int HF.out.symm, hw4⟩
      · have HF : Aside (P.shipE legs souls cs bs = 4) := by have := HE.out; rw [h3] at this; exact this
        clear HE
        go_enter Try.func28, Try.ntmps28
        go_wp2_with (first
          | (go_at_call 51; refine (checkSize_any _ _ _ _ _ _ _ _ _).mono ?_; rintro e w1 ⟨rfl, hbb1⟩; obtain ⟨hcc1, _⟩ := bcell hbb1; have hw1 : Below w.heap.size w w1 := bvia (by go_grown) hbb1; have hz1 : w.heap.size < w1.heap.size := by (have := hbb1.size; simp at this; omega))
          | (go_at_call 52; refine (checkCategories_any _ _ cs _ (hs.below hw1).cats (by omega)).mono ?_; rintro e w2 ⟨rfl, hbb2⟩; obtain ⟨hcc2, _⟩ := bcell hbb2; have hw2 := bvia hw1 hbb2; have hz2 : w.heap.size < w2.heap.size := by (have := hbb2.size; omega))
          | (go_at_call 53; refine (inCircle_any _ _ cs _ (hs.below hw2).cats hc5 HO.out).mono ?_; rintro e w3 ⟨rfl, hbb3⟩; rw [h3]; obtain ⟨hcc3, _⟩ := bcell hbb3; have hw3 := bvia hw2 hbb3))
        go_ret
        exact ⟨ret_int HF.out.symm, hw3⟩
    · rw [if_neg (by simpa using h2)] at HE
      go_enter Try.func28, Try.ntmps28
      go_wp2_with (first
        | (go_at_call 51; refine (checkSize_any _ _ _ _ _ _ _ _ _).mono ?_; rintro e w1 ⟨rfl, hbb1⟩; obtain ⟨hcc1, _⟩ := bcell hbb1; have hw1 : Below w.heap.size w w1 := bvia (by go_grown) hbb1; have hz1 : w.heap.size < w1.heap.size := by (have := hbb1.size; simp at this; omega))
        | (go_at_call 52; refine (checkCategories_any _ _ cs _ (hs.below hw1).cats (by omega)).mono ?_; rintro e w2 ⟨rfl, hbb2⟩; have hw2 := bvia hw1 hbb2))
      go_ret
      exact ⟨ret_int HE.out.symm, hw2⟩
  · have HE : Aside (P.shipE legs souls cs bs = P.sizeE legs souls cs.length bs.length) := by show _ = _; rw [P.shipE, if_neg (by simpa using h1)]
    go_enter Try.func28, Try.ntmps28
    go_wp2_with (go_at_call 51; refine (checkSize_any _ _ _ _ _ _ _ _ _).mono ?_; rintro e w1 ⟨rfl, hbb1⟩)
    go_ret
    exact ⟨ret_int HE.out.symm, bvia (by go_grown) hbb1⟩

end Go.Proofs.Ytnadhpemmehedaa
