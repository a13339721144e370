import Derived.Test.YtlamhfbdeinkkaeGreatShAt
import Derived.Deep.OwnRows
import Derived.Deep.MidRow
import Derived.Lib.QuietBelow
import Derived.BigRegion
set_option maxRecDepth 10000
/- Who serves whom: plain facts on the table; the walk of whoServes. -/
namespace Go.Proofs.YtlamhfbdeinkkaeGreat.Sh
open Go.RowKit Go.Maps Go.WideMaps
set_option linter.unusedSimpArgs false
set_option linter.unusedVariables false

abbrev Tab := Nat → Nat → Bool
def P.step (T : Tab) (m : Nat) : Tab := fun a b => T a b || (T a m && T m b)
def P.war (T : Tab) : Nat → Tab
  | 0 => T
  | m + 1 => P.step (P.war T m) m
/-- a stands in b's Higher. -/
def P.edge (l : List Cat) : Tab := fun a b => (l.getD b (ByteArray.empty, [])).2.any fun h => decide (h = (a : Int))
/-- What the program's table begins with. -/
def P.base (l : List Cat) : Tab := fun a b => decide (b < l.length) && (decide (a = b) || P.edge l a b)
/-- .. behind k categories; .. and these of the next one's Higher. -/
def P.done (l : List Cat) (k : Nat) : Tab := fun a b => decide (b < k) && (decide (a = b) || P.edge l a b)
def P.part (l : List Cat) (k : Nat) (hs : List Int) : Tab := fun a b => P.done l k a b || (decide (b = k) && (decide (a = b) || hs.any fun h => decide (h = (a : Int))))

/-- Block B holds the table T. -/
abbrev TabAt (w : World) (B : Nat) (T : Tab) : Prop := w.rowIs B 227 25 (fun i => .bool (T (i / 5) (i % 5)))

theorem TabAt.get {w : World} {B : Nat} {T : Tab} (h : TabAt w B T) {a b : Nat} (ha : a < 5) (hb : b < 5) : w.cell? ⟨B, a * 5 + b, none⟩ = some (.bool (T a b)) := by
  have := World.rowIs.cell h (i := a * 5 + b) (by omega)
  rw [this]
  have e1 : (a * 5 + b) / 5 = a := by omega
  have e2 : (a * 5 + b) % 5 = b := by omega
  rw [e1, e2]

theorem TabAt.put {w : World} {B : Nat} {T T' : Tab} (h : TabAt w B T) {a b : Nat} {v : Bool} (ha : a < 5) (hb : b < 5) (h1 : T' a b = v) (h2 : ∀ x y, x < 5 → y < 5 → ¬ (x = a ∧ y = b) → T' x y = T x y) :
    TabAt (w.setCell ⟨B, a * 5 + b, none⟩ (.bool v)) B T' := by
  refine World.rowIs.congr (World.rowIs.set h (a * 5 + b) (.bool v)) fun i hi => ?_
  by_cases e : i = a * 5 + b
  · rw [if_pos e]
    have e1 : i / 5 = a := by omega
    have e2 : i % 5 = b := by omega
    rw [e1, e2, h1]
  · rw [if_neg e, h2 (i / 5) (i % 5) (by omega) (by omega) (by omega)]

theorem TabAt.congr {w : World} {B : Nat} {T T' : Tab} (h : TabAt w B T) (e : ∀ x y, x < 5 → y < 5 → T x y = T' x y) : TabAt w B T' :=
  World.rowIs.congr h fun i hi => by rw [e _ _ (by omega) (by omega)]

theorem TabAt.below {w w' : World} {B : Nat} {T : Tab} (h : TabAt w B T) (hb : Below w.heap.size w w') : TabAt w' B T :=
  World.rowIs.of_block h (hb.block B h.lt)

theorem zeros25 (i : Nat) (hi : i < 25) : (#[.bool false, .bool false, .bool false, .bool false, .bool false, .bool false, .bool false, .bool false, .bool false, .bool false, .bool false, .bool false, .bool false, .bool false, .bool false, .bool false, .bool false, .bool false, .bool false, .bool false, .bool false, .bool false, .bool false, .bool false, .bool false] : Array Value)[i]? = some (.bool false) := by
  rw [show (#[.bool false, .bool false, .bool false, .bool false, .bool false, .bool false, .bool false, .bool false, .bool false, .bool false, .bool false, .bool false, .bool false, .bool false, .bool false, .bool false, .bool false, .bool false, .bool false, .bool false, .bool false, .bool false, .bool false, .bool false, .bool false] : Array Value) = (List.replicate 25 (.bool false)).toArray from rfl]
  rw [List.getElem?_toArray, List.getElem?_replicate, if_pos hi]
theorem tab_zero1 (w : World) (o : Obj) : TabAt ((w.alloc (.cells #[.bool false, .bool false, .bool false, .bool false, .bool false, .bool false, .bool false, .bool false, .bool false, .bool false, .bool false, .bool false, .bool false, .bool false, .bool false, .bool false, .bool false, .bool false, .bool false, .bool false, .bool false, .bool false, .bool false, .bool false, .bool false] 227)).alloc o) w.heap.size (fun _ _ => false) :=
  World.rowIs.alloc (World.rowIs_alloc w _ _ _ (fun i hi => zeros25 i hi)) _
theorem tab_zero2 (w : World) (o : Obj) (l : List Cat) : TabAt ((w.alloc o).alloc (.cells #[.bool false, .bool false, .bool false, .bool false, .bool false, .bool false, .bool false, .bool false, .bool false, .bool false, .bool false, .bool false, .bool false, .bool false, .bool false, .bool false, .bool false, .bool false, .bool false, .bool false, .bool false, .bool false, .bool false, .bool false, .bool false] 227)) (w.heap.size + 1) (P.done l 0) := by
  have := World.rowIs_alloc (w.alloc o) #[.bool false, .bool false, .bool false, .bool false, .bool false, .bool false, .bool false, .bool false, .bool false, .bool false, .bool false, .bool false, .bool false, .bool false, .bool false, .bool false, .bool false, .bool false, .bool false, .bool false, .bool false, .bool false, .bool false, .bool false, .bool false] 227 (fun i => .bool (P.done l 0 (i / 5) (i % 5))) (fun i hi => by rw [zeros25 i hi]; simp [P.done])
  simpa using this

/-- The table in the midst of a round of m: rows ahead of a, and row a ahead of b, are the round's already. -/
def P.mix (T : Tab) (m a b : Nat) : Tab := fun x y => if x < a ∨ (x = a ∧ y < b) then P.step T m x y else T x y
theorem mix_here (T : Tab) (m a b : Nat) : P.mix T m a b a b = T a b := by
  unfold P.mix; rw [if_neg (by omega)]
theorem mix_am (T : Tab) (m a b : Nat) : P.mix T m a b a m = T a m := by
  unfold P.mix P.step
  split
  · cases T a m <;> simp
  · rfl
theorem mix_mb (T : Tab) (m a b : Nat) : P.mix T m a b m b = T m b := by
  unfold P.mix P.step
  split
  · cases T m b <;> simp
  · rfl

theorem base_out {l : List Cat} (hh : ∀ c ∈ l, ∀ h ∈ c.2, 0 ≤ h ∧ h < l.length) (x y : Nat) (h : l.length ≤ x ∨ l.length ≤ y) : P.base l x y = false := by
  unfold P.base
  by_cases hy : y < l.length
  · have hx : l.length ≤ x := by omega
    have e1 : decide (x = y) = false := by simp; omega
    have e2 : P.edge l x y = false := by
      unfold P.edge
      rw [List.any_eq_false]
      intro v hv hd
      simp at hd
      rw [List.getD_eq_getElem?_getD, List.getElem?_eq_getElem hy] at hv
      have := hh l[y] (List.getElem_mem hy) v hv
      omega
    rw [e1, e2]; simp
  · simp [hy]
theorem war_out {l : List Cat} (hh : ∀ c ∈ l, ∀ h ∈ c.2, 0 ≤ h ∧ h < l.length) (m x y : Nat) (h : l.length ≤ x ∨ l.length ≤ y) : P.war (P.base l) m x y = false := by
  induction m generalizing x y with
  | zero => exact base_out hh x y h
  | succ m ih =>
    rw [P.war, P.step, ih x y h]
    rcases h with h | h
    · rw [ih x m (.inl h)]; rfl
    · rw [ih m y (.inr h)]; simp

/-- A table as its row of cells. -/
def P.row (T : Tab) : List Value := (List.range 25).map fun i => Value.bool (T (i / 5) (i % 5))
theorem TabAt.range {w : World} {B : Nat} {T : Tab} (h : TabAt w B T) : w.rangeAt B 0 (P.row T) := by
  intro j v hv
  obtain ⟨hj, e⟩ := List.getElem?_eq_some_iff.1 hv
  simp [P.row] at hj e
  rw [Nat.zero_add, World.rowIs.cell h hj, ← e]
theorem TabAt.there {w : World} {B : Nat} {T : Tab} (h : TabAt w B T) : w.there B 0 25 := by
  intro j hj
  rw [Nat.zero_add, World.rowIs.cell h hj]
  exact ⟨rfl, World.rowIs.frozen h j⟩
theorem Tryz.sizeTab : (Tryz.prog.info? 227).map (·.size) = some 25 := by kernel_rfl
theorem results_cell {fn : Func} {p : Tmp} {ty : TypeId} (h : fn.results = #[.cell p ty]) (tmps : Array Value) (P : Program) (w : World) :
    (results fn tmps).run P w = ((asAddr (tmps.getD p undef)).run P w).andThen fun a w₁ => (loadVar ty a).run P w₁ := by
  simp only [results, h]
  simp [Sem.run_bind, Result.andThen]
theorem below_setCells {w0 w : World} (hB : Below w0.heap.size w0 w) {g : Nat} (hg : w0.heap.size ≤ g) (o : Nat) (vs : List Value) : Below w0.heap.size w0 (w.setCells g o vs) := by
  induction vs generalizing w o with
  | nil => exact hB
  | cons v vs ih => exact ih (hB.setCell (p := ⟨g, o, none⟩) hg v) (o + 1)

set_option maxHeartbeats 2000000 in
theorem whoServes_any (ao : Option Addr) (cap : Nat) (l : List Cat) (w : World) (hl : CatsAt w ao cap l) (hn : l.length ≤ 5) (hh : ∀ c ∈ l, ∀ h ∈ c.2, 0 ≤ h ∧ h < l.length) :
    Calls Tryz.prog 211 #[.slice ao l.length cap] w fun e w' => e = .returned (.agg (P.row (P.war (P.base l) l.length)).toArray) ∧ Below w.heap.size w w' := by
  have hle := hl.le
  go_enter Tryz.func211, Tryz.ntmps211
  go_wp2
  go_loopg [13] l.length (fun g i wr => ∃ (k : Nat), k ≤ l.length ∧ g = l.length - k ∧ i = .int .i64 k ∧ TabAt wr (w.heap.size + 1) (P.done l k) ∧ TabAt wr w.heap.size (fun _ _ => false) ∧ Below w.heap.size w wr)
  case atStart => exact ⟨0, Nat.zero_le _, rfl, rfl, tab_zero2 w _ l, tab_zero1 w _, by go_grown⟩
  case round =>
    obtain ⟨k, hk, rfl, rfl, hT, hZ, hB⟩ := hrel
    have hBs := hB.size
    have hTl := hT.lt
    by_cases hlt : k < l.length
    · obtain ⟨b, off, nm, hs, hao, hcap, rfl, hbw, hd, hcw0, hcw1, hin, hnm⟩ := hl.get (Below.refl _ _) k hlt
      have hc0 := cellIn hB hcw0
      have hc1 := cellIn hB hcw1
      have hfr := hT.frozen (k * 5 + k)
      have hce := hT.get (a := k) (b := k) (by omega) (by omega)
      have HG : Aside (l.getD k (ByteArray.empty, []) = (nm, hs)) := by
        have h1 := List.drop_eq_getElem_cons hlt
        rw [hd] at h1
        simp only [List.cons.injEq] at h1
        show _ = _
        rw [List.getD_eq_getElem?_getD, List.getElem?_eq_getElem hlt, ← h1.1]
        rfl
      have HH : Aside (∀ h ∈ hs, 0 ≤ h ∧ h < l.length) := by
        have hm : (nm, hs) ∈ l := by
          have := List.mem_cons_self (a := (nm, hs)) (l := l.drop (k + 1))
          rw [← hd] at this
          exact List.mem_of_mem_drop this
        exact hh _ hm
      clear hd
      have HT1 : Aside (∀ o : Obj, TabAt ((wr.setCell ⟨w.heap.size + 1, k * 5 + k, none⟩ (.bool true)).alloc o) (w.heap.size + 1) (P.part l k [])) := fun o =>
        World.rowIs.alloc (TabAt.put hT (by omega) (by omega) (by simp [P.part, P.done]) (fun x y hx hy hne => by
          unfold P.part
          by_cases e : y = k
          · subst e; simp [P.done]; intro e2; exact absurd ⟨e2, rfl⟩ hne
          · simp [e])) o
      have HZ1 : Aside (∀ o : Obj, TabAt ((wr.setCell ⟨w.heap.size + 1, k * 5 + k, none⟩ (.bool true)).alloc o) w.heap.size (fun _ _ => false)) := fun o =>
        World.rowIs.alloc (World.rowIs.setOther hZ (by simp) _) o
      go_wp2
      go_loopg [25] hs.length (fun g j wx => ∃ (i : Nat), i ≤ hs.length ∧ g = hs.length - i ∧ j = .int .i64 i ∧ TabAt wx (w.heap.size + 1) (P.part l k (hs.take i)) ∧ TabAt wx w.heap.size (fun _ _ => false) ∧ Below w.heap.size w wx)
      case atStart => exact ⟨0, Nat.zero_le _, rfl, rfl, HT1.out _, HZ1.out _, (hB.setCell (by show w.heap.size ≤ w.heap.size + 1; omega) _).alloc (by simp; omega) _⟩
      case round =>
        clear hT hZ hB hBs hTl hfr hce HT1 HZ1 hc0 hc1
        obtain ⟨i, hi, rfl, rfl, hT, hZ, hB⟩ := hrel
        have hBs := hB.size
        have hTl := hT.lt
        have hhl := hin.le
        have hhm := hin.max
        unfold maxLen at hhm
        by_cases hil : i < hs.length
        · obtain ⟨b2, off2, h, rfl, hb2, hd2, hc2⟩ := hin.get hB i hil
          have hmem : h ∈ hs := by
            have := List.mem_cons_self (a := h) (l := hs.drop (i + 1))
            rw [← hd2] at this
            exact List.mem_of_mem_drop this
          obtain ⟨hh0, hh1⟩ := HH.out h hmem
          obtain ⟨H, rfl⟩ : ∃ H : Nat, h = H := ⟨h.toNat, by omega⟩
          have HD : Aside (hs.take (i + 1) = hs.take i ++ [(H : Int)]) := by
            have h1 := List.drop_eq_getElem_cons hil
            rw [hd2] at h1
            simp only [List.cons.injEq] at h1
            show _ = _
            rw [h1.1, List.take_succ_eq_append_getElem hil]
          clear hd2
          have hfr := hT.frozen (H * 5 + k)
          have hce := hT.get (a := H) (b := k) (by omega) (by omega)
          go_wp2
          go_roundg (hs.length - (i + 1))
          case measure => omega
          case rel =>
            refine ⟨i + 1, by omega, rfl, by go_num, ?_, World.rowIs.setOther hZ (by simp) _, hB.setCell (by simp) _⟩
            refine TabAt.put hT (by omega) (by omega) ?_ ?_
            · unfold P.part; rw [HD.out]; simp
            · intro x y hx hy hne
              unfold P.part
              rw [HD.out]
              by_cases e : y = k
              · subst e
                have : ¬ (H : Int) = (x : Int) := by intro e2; exact hne ⟨by omega, rfl⟩
                simp [this]
              · simp [e]
        · obtain rfl : i = hs.length := by omega
          rw [List.take_of_length_le (Nat.le_refl _)] at hT
          go_wp2
          go_roundg (l.length - (k + 1))
          case measure => omega
          case rel =>
            refine ⟨k + 1, by omega, rfl, by go_num, TabAt.congr hT ?_, hZ, hB⟩
            intro x y hx hy
            unfold P.part P.done P.edge
            by_cases e : y = k
            · subst e
              rw [HG.out]
              simp
            · have e2 : decide (y < k) = decide (y < k + 1) := by rw [decide_eq_decide]; omega
              simp [e, e2]
    · obtain rfl : k = l.length := by omega
      have hT0 : TabAt wr (w.heap.size + 1) (P.war (P.base l) 0) := hT
      clear hT
      go_wp2
      go_loopg [37] l.length (fun g i wx => ∃ (m : Nat), m ≤ l.length ∧ g = l.length - m ∧ i = .int .i64 m ∧ TabAt wx (w.heap.size + 1) (P.war (P.base l) m) ∧ TabAt wx w.heap.size (fun _ _ => false) ∧ Below w.heap.size w wx)
      case atStart => exact ⟨0, Nat.zero_le _, rfl, rfl, hT0, hZ, hB⟩
      case round =>
        clear hT0 hZ hB hBs hTl
        obtain ⟨m, hm, rfl, rfl, hT, hZ, hB⟩ := hrel
        by_cases hml : m < l.length
        · generalize hW : P.war (P.base l) m = T at hT
          have HW : Aside (P.war (P.base l) (m + 1) = P.step T m) := by show _ = _; rw [P.war, hW]
          have HF : Aside (∀ x y, l.length ≤ x ∨ l.length ≤ y → T x y = false) := by intro x y h; rw [← hW]; exact war_out hh m x y h
          clear hW
          go_wp2
          go_loopg [42] l.length (fun g i wx => ∃ (a : Nat), a ≤ l.length ∧ g = l.length - a ∧ i = .int .i64 a ∧ TabAt wx (w.heap.size + 1) (P.mix T m a 0) ∧ TabAt wx w.heap.size (fun _ _ => false) ∧ Below w.heap.size w wx)
          case atStart => exact ⟨0, Nat.zero_le _, rfl, rfl, hT.congr (fun x y _ _ => by simp [P.mix]), hZ, hB⟩
          case round =>
            clear hT hZ hB
            obtain ⟨a, ha, rfl, rfl, hT, hZ, hB⟩ := hrel
            by_cases hal : a < l.length
            · go_wp2
              go_loopg [47] l.length (fun g i wx => ∃ (b : Nat), b ≤ l.length ∧ g = l.length - b ∧ i = .int .i64 b ∧ TabAt wx (w.heap.size + 1) (P.mix T m a b) ∧ TabAt wx w.heap.size (fun _ _ => false) ∧ Below w.heap.size w wx)
              case atStart => exact ⟨0, Nat.zero_le _, rfl, rfl, hT, hZ, hB⟩
              case round =>
                clear hT hZ hB
                obtain ⟨b, hb, rfl, rfl, hT, hZ, hB⟩ := hrel
                by_cases hbl : b < l.length
                · have hfr := hT.frozen (a * 5 + b)
                  have g1 := hT.get (a := a) (b := b) (by omega) (by omega)
                  have g2 := hT.get (a := a) (b := m) (by omega) (by omega)
                  have g3 := hT.get (a := m) (b := b) (by omega) (by omega)
                  rw [mix_here] at g1
                  rw [mix_am] at g2
                  rw [mix_mb] at g3
                  have i1 : (a : Int) < 5 := by omega
                  have i2 : (b : Int) < 5 := by omega
                  have i3 : (m : Int) < 5 := by omega
                  have i4 : (0 : Int) ≤ a := by omega
                  have i5 : (0 : Int) ≤ b := by omega
                  have i6 : (0 : Int) ≤ m := by omega
                  have fin : ∀ v, P.step T m a b = v → TabAt (wr.setCell ⟨w.heap.size + 1, a * 5 + b, none⟩ (.bool v)) (w.heap.size + 1) (P.mix T m a (b + 1)) := fun v hv =>
                    TabAt.put hT (by omega) (by omega) (by unfold P.mix; rw [if_pos (by omega)]; exact hv) (fun x y hx hy hne => by
                      unfold P.mix
                      by_cases e : x < a ∨ (x = a ∧ y < b)
                      · rw [if_pos e, if_pos (by omega)]
                      · rw [if_neg e, if_neg (by omega)])
                  have finZ : ∀ v, TabAt (wr.setCell ⟨w.heap.size + 1, a * 5 + b, none⟩ (.bool v)) w.heap.size (fun _ _ => false) := fun v => World.rowIs.setOther hZ (by simp) _
                  have finB : ∀ v, Below w.heap.size w (wr.setCell ⟨w.heap.size + 1, a * 5 + b, none⟩ (.bool v)) := fun v => hB.setCell (by show w.heap.size ≤ w.heap.size + 1; omega) _
                  have FIN := And.intro fin (And.intro finZ finB)
                  have HFIN : Aside _ := FIN
                  clear fin finZ finB FIN
                  cases t1 : T a b
                  · rw [t1] at g1
                    cases t2 : T a m
                    · rw [t2] at g2
                      have HV : Aside (P.step T m a b = false) := by show _ = _; simp [P.step, t1, t2]
                      clear t1 t2
                      go_wp2
                      go_big_region
                      go_wp2
                      go_roundg (l.length - (b + 1))
                      case measure => omega
                      case rel => exact ⟨b + 1, by omega, rfl, by go_num, HFIN.out.1 _ HV.out, HFIN.out.2.1 _, (HFIN.out.2.2 _).drew⟩
                    · rw [t2] at g2
                      cases t3 : T m b
                      · rw [t3] at g3
                        have HV : Aside (P.step T m a b = false) := by show _ = _; simp [P.step, t1, t2, t3]
                        clear t1 t2 t3
                        go_wp2
                        go_big_region
                        go_wp2
                        go_roundg (l.length - (b + 1))
                        case measure => omega
                        case rel => exact ⟨b + 1, by omega, rfl, by go_num, HFIN.out.1 _ HV.out, HFIN.out.2.1 _, (HFIN.out.2.2 _).drew⟩
                      · rw [t3] at g3
                        have HV : Aside (P.step T m a b = true) := by show _ = _; simp [P.step, t1, t2, t3]
                        clear t1 t2 t3
                        go_wp2
                        go_big_region
                        go_wp2
                        go_roundg (l.length - (b + 1))
                        case measure => omega
                        case rel => exact ⟨b + 1, by omega, rfl, by go_num, HFIN.out.1 _ HV.out, HFIN.out.2.1 _, (HFIN.out.2.2 _).drew⟩
                  · rw [t1] at g1
                    have HV : Aside (P.step T m a b = true) := by show _ = _; simp [P.step, t1]
                    clear t1
                    go_wp2
                    go_big_region
                    go_wp2
                    go_roundg (l.length - (b + 1))
                    case measure => omega
                    case rel => exact ⟨b + 1, by omega, rfl, by go_num, HFIN.out.1 _ HV.out, HFIN.out.2.1 _, (HFIN.out.2.2 _).drew⟩
                · obtain rfl : b = l.length := by omega
                  go_wp2
                  go_roundg (l.length - (a + 1))
                  case measure => omega
                  case rel =>
                    refine ⟨a + 1, by omega, rfl, by go_num, hT.congr fun x y hx hy => ?_, hZ, hB⟩
                    unfold P.mix
                    by_cases e : x < a ∨ (x = a ∧ y < l.length)
                    · rw [if_pos e, if_pos (by omega)]
                    · rw [if_neg e]
                      by_cases e2 : x < a + 1 ∨ (x = a + 1 ∧ y < 0)
                      · rw [if_pos e2, P.step, HF.out x y (.inr (by omega)), HF.out m y (.inr (by omega))]; simp
                      · rw [if_neg e2]
            · obtain rfl : a = l.length := by omega
              go_wp2
              go_roundg (l.length - (m + 1))
              case measure => omega
              case rel =>
                refine ⟨m + 1, by omega, rfl, by go_num, ?_, hZ, hB⟩
                rw [HW.out]
                refine hT.congr fun x y hx hy => ?_
                unfold P.mix
                by_cases e : x < l.length ∨ (x = l.length ∧ y < 0)
                · rw [if_pos e]
                · rw [if_neg e, P.step, HF.out x y (.inl (by omega)), HF.out x m (.inl (by omega))]; simp
        · obtain rfl : m = l.length := by omega
          have hr := TabAt.range hT
          have ht := TabAt.there hZ
          generalize hcs : P.row (P.war (P.base l) l.length) = cs at hr
          have hlen : cs.length = 25 := by rw [← hcs]; simp [P.row]
          have h1 : ∀ v ∈ cs, v.oneCell' = true := by
            rw [← hcs]; intro v hv; simp [P.row] at hv; obtain ⟨i, _, rfl⟩ := hv; rfl
          have hi : (Tryz.prog.info? 227).map (·.size) = some cs.length := by rw [hlen]; exact Tryz.sizeTab
          have HC : Aside (P.row (P.war (P.base l) l.length) = cs) := hcs
          clear hcs hT hZ
          go_wp2_with (first
            | (refine wpList_load_mid rfl 227 (.tmp 3) rfl (w.heap.size + 1) 0 rfl cs _ hr Tryz.underlying227 rfl hi ?_)
            | (refine wpList_store_mid rfl 227 (.tmp 2) (.tmp 76) rfl w.heap.size 0 cs.toArray rfl rfl (by simpa [hlen] using ht) (by simpa using hi) (all_oneCell_toArray h1) ?_))
          refine bodyPost_ret (v := .agg cs.toArray) ?_ rfl ?_
          · rw [results_cell rfl]
            have := World.rangeAt_setCells_same wr w.heap.size 0 cs (by rw [hlen]; exact ht)
            have h3 := run_loadVar_mid (P := Tryz.prog) (wr.setCells w.heap.size 0 cs) w.heap.size 0 227 cs _ this Tryz.underlying227 rfl hi
            change ((asAddr (Value.pointer (some ⟨w.heap.size, 0, none⟩))).run Tryz.prog (wr.setCells w.heap.size 0 cs)).andThen (fun a w₁ => (loadVar 227 a).run Tryz.prog w₁) = _
            simp [asAddr, h3]
          · refine ⟨by rw [← HC.out], ?_⟩
            exact below_setCells hB (Nat.le_refl _) _ _

end Go.Proofs.YtlamhfbdeinkkaeGreat.Sh
/- Walks of inCircle, Check, Serves of package ship. -/
namespace Go.Proofs.YtlamhfbdeinkkaeGreat.Sh
open Go.RowKit Go.Maps Go.WideMaps
set_option linter.unusedSimpArgs false
set_option linter.unusedVariables false

set_option maxHeartbeats 1000000 in
theorem circle2_any (B gi gh i j : Nat) (T : Tab) (hs : List Int) (hao : Option Addr) (hcap : Nat) (w : World) (hT : TabAt w B T) (hgi : w.cell? ⟨gi, 0, none⟩ = some (.int .i64 i)) (hgh : w.cell? ⟨gh, 0, none⟩ = some (.slice hao hs.length hcap))
    (hin : IntsAt w hao hcap hs) (hi : i < 5) (hj : j < hs.length) (hh : ∀ h ∈ hs, 0 ≤ h ∧ h < 5) :
    Calls Tryz.prog 214 #[.int .i64 j, .pointer (some ⟨B, 0, none⟩), .pointer (some ⟨gi, 0, none⟩), .pointer (some ⟨gh, 0, none⟩)] w fun e w' => e = .returned (.bool (T i (hs.getD j 0).toNat)) ∧ Below w.heap.size w w' := by
  obtain ⟨b, off, h, rfl, hbw, hd, hc⟩ := hin.get (Below.refl _ _) j hj
  have hm := hin.max
  have hl := hin.le
  unfold maxLen at hm
  have hmem : h ∈ hs := by
    have := List.mem_cons_self (a := h) (l := hs.drop (j + 1))
    rw [← hd] at this
    exact List.mem_of_mem_drop this
  obtain ⟨h0, h1⟩ := hh h hmem
  obtain ⟨H, rfl⟩ : ∃ H : Nat, h = H := ⟨h.toNat, by omega⟩
  have HG : Aside ((hs.getD j 0).toNat = H) := by
    have e := List.drop_eq_getElem_cons hj
    rw [hd] at e
    simp only [List.cons.injEq] at e
    show _ = _
    rw [List.getD_eq_getElem?_getD, List.getElem?_eq_getElem hj, ← e.1]
    simp
  have hce := hT.get (a := i) (b := H) hi (by omega)
  clear hd hT hh hin
  have i1 : (i : Int) < 5 := by omega
  have i2 : (0 : Int) ≤ i := by omega
  have i3 : (H : Int) < 5 := by omega
  have i4 : (0 : Int) ≤ H := by omega
  have i5 : (j : Int) < hs.length := by omega
  have i6 : (0 : Int) ≤ j := by omega
  rw [HG.out]
  go_enter Tryz.func214, Tryz.ntmps214
  go_wp2
  go_quiet (fail)
  go_wp2
  go_ret
  exact ⟨rfl, below_drewN (Below.refl _ _) _⟩

/-- The cells that inCircle's function literals read. -/
structure CircAt (w : World) (gl B : Nat) (ao : Option Addr) (cap : Nat) (l : List Cat) (T : Tab) : Prop where
  list : w.cell? ⟨gl, 0, none⟩ = some (.slice ao l.length cap)
  tab : TabAt w B T
  cats : CatsAt w ao cap l
theorem CircAt.below {w w' : World} {gl B : Nat} {ao : Option Addr} {cap : Nat} {l : List Cat} {T : Tab} (h : CircAt w gl B ao cap l T) (hb : Below w.heap.size w w') : CircAt w' gl B ao cap l T :=
  ⟨cellIn hb h.list, h.tab.below hb, SlAt.below RCat.mono h.cats hb⟩

theorem hasCircle2_any (B gi gh i : Nat) (T : Tab) (hs : List Int) (hao : Option Addr) (hcap : Nat) (w : World) (hT : TabAt w B T) (hgi : w.cell? ⟨gi, 0, none⟩ = some (.int .i64 i)) (hgh : w.cell? ⟨gh, 0, none⟩ = some (.slice hao hs.length hcap))
    (hin : IntsAt w hao hcap hs) (hi : i < 5) (hn : hs.length ≤ 1000) (hh : ∀ h ∈ hs, 0 ≤ h ∧ h < 5) :
    Calls Tryz.prog 212 #[.int .i64 hs.length, .func (.func 214) #[] #[.pointer (some ⟨B, 0, none⟩), .pointer (some ⟨gi, 0, none⟩), .pointer (some ⟨gh, 0, none⟩)]] w fun e w' => e = .returned (.bool (P.some (fun j => T i (hs.getD j 0).toNat) hs.length)) ∧ Below w.heap.size w w' := by
  refine has_any hs.length 214 _ (fun j => T i (hs.getD j 0).toNat) w hn (fun args wx => by go_simp) ?_
  intro k wx hk hbx
  rw [arr4]
  exact circle2_any B gi gh i k T hs hao hcap wx (hT.below hbx) (cellIn hbx hgi) (cellIn hbx hgh) (SlAt.below RInt.mono hin hbx) hi hk hh

def P.circAt (T : Tab) (l : List Cat) (i : Nat) : Bool := P.some (fun j => T i ((l.getD i (ByteArray.empty, [])).2.getD j 0).toNat) (l.getD i (ByteArray.empty, [])).2.length

set_option maxHeartbeats 1000000 in
theorem circle1_any (gl B i : Nat) (ao : Option Addr) (cap : Nat) (l : List Cat) (T : Tab) (w : World) (hc : CircAt w gl B ao cap l T) (hi : i < l.length) (hn : l.length ≤ 5) (hs5 : ∀ c ∈ l, c.2.length ≤ 1000) (hh : ∀ c ∈ l, ∀ h ∈ c.2, 0 ≤ h ∧ h < 5) :
    Calls Tryz.prog 213 #[.int .i64 i, .pointer (some ⟨gl, 0, none⟩), .pointer (some ⟨B, 0, none⟩)] w fun e w' => e = .returned (.bool (P.circAt T l i)) ∧ Below w.heap.size w w' := by
  obtain ⟨b, off, nm, hs, hao, hcap, rfl, hbw, hd, hc0, hc1, hin, hnm⟩ := hc.cats.get (Below.refl _ _) i hi
  have hle := hc.cats.le
  have hm := hc.cats.max
  unfold maxLen at hm
  have hgl := hc.list
  have HG : Aside (l.getD i (ByteArray.empty, []) = (nm, hs)) := by
    have h1 := List.drop_eq_getElem_cons hi
    rw [hd] at h1
    simp only [List.cons.injEq] at h1
    show _ = _
    rw [List.getD_eq_getElem?_getD, List.getElem?_eq_getElem hi, ← h1.1]
    rfl
  have hmem : (nm, hs) ∈ l := by
    have := List.mem_cons_self (a := (nm, hs)) (l := l.drop (i + 1))
    rw [← hd] at this
    exact List.mem_of_mem_drop this
  have HH : Aside (∀ h ∈ hs, 0 ≤ h ∧ h < 5) := hh _ hmem
  have hsl : hs.length ≤ 1000 := hs5 _ hmem
  have hT := hc.tab
  have hTl := hT.lt
  have hgll := World.block_lt_of_cell? w _ hgl
  clear hd hmem hs5 hh
  rw [P.circAt, HG.out]
  simp only
  go_enter Tryz.func213, Tryz.ntmps213
  go_wp2_with fail
  refine (hasCircle2_any B w.heap.size (w.heap.size + 1) i T hs hao hcap _ ((hT.below (by go_grown))) (by simp) (by simp) (SlAt.below RInt.mono hin (by go_grown)) (by omega) hsl HH.out).mono ?_
  rintro e w1 ⟨rfl, hb1⟩
  go_wp2
  go_ret
  exact ⟨rfl, bvia (by go_grown) hb1⟩

theorem hasCircle1_any (gl B : Nat) (ao : Option Addr) (cap : Nat) (l : List Cat) (T : Tab) (w : World) (hc : CircAt w gl B ao cap l T) (hn : l.length ≤ 5) (hs5 : ∀ c ∈ l, c.2.length ≤ 1000) (hh : ∀ c ∈ l, ∀ h ∈ c.2, 0 ≤ h ∧ h < 5) :
    Calls Tryz.prog 212 #[.int .i64 l.length, .func (.func 213) #[] #[.pointer (some ⟨gl, 0, none⟩), .pointer (some ⟨B, 0, none⟩)]] w fun e w' => e = .returned (.bool (P.some (P.circAt T l) l.length)) ∧ Below w.heap.size w w' := by
  refine has_any l.length 213 _ (P.circAt T l) w (by omega) (fun args wx => by go_simp) ?_
  intro k wx hk hbx
  rw [arr3]
  exact circle1_any gl B k ao cap l T wx (hc.below hbx) hk hn hs5 hh

theorem tab_new (w : World) : TabAt (w.alloc (.cells #[.bool false, .bool false, .bool false, .bool false, .bool false, .bool false, .bool false, .bool false, .bool false, .bool false, .bool false, .bool false, .bool false, .bool false, .bool false, .bool false, .bool false, .bool false, .bool false, .bool false, .bool false, .bool false, .bool false, .bool false, .bool false] 227)) w.heap.size (fun _ _ => false) := World.rowIs_alloc w _ _ _ (fun i hi => zeros25 i hi)

/-- A table stored whole into a new block. -/
theorem tab_stored (w : World) (T : Tab) : TabAt ((w.alloc (.cells #[.bool false, .bool false, .bool false, .bool false, .bool false, .bool false, .bool false, .bool false, .bool false, .bool false, .bool false, .bool false, .bool false, .bool false, .bool false, .bool false, .bool false, .bool false, .bool false, .bool false, .bool false, .bool false, .bool false, .bool false, .bool false] 227)).setCells w.heap.size 0 (P.row T)) w.heap.size T := by
  have h0 : TabAt (w.alloc (.cells #[.bool false, .bool false, .bool false, .bool false, .bool false, .bool false, .bool false, .bool false, .bool false, .bool false, .bool false, .bool false, .bool false, .bool false, .bool false, .bool false, .bool false, .bool false, .bool false, .bool false, .bool false, .bool false, .bool false, .bool false, .bool false] 227)) w.heap.size (fun _ _ => false) := World.rowIs_alloc w _ _ _ (fun i hi => zeros25 i hi)
  have key : ∀ (vs : List Value) (o : Nat) (u : World) (f : Nat → Value), u.rowIs w.heap.size 227 25 f → (u.setCells w.heap.size o vs).rowIs w.heap.size 227 25 (fun i => if o ≤ i ∧ i < o + vs.length then vs.getD (i - o) undef else f i) := by
    intro vs
    induction vs with
    | nil => intro o u f h; exact World.rowIs.congr h (fun i _ => by rw [if_neg (by simp)])
    | cons v vs ih =>
      intro o u f h
      refine World.rowIs.congr (ih (o + 1) _ _ (World.rowIs.set h o v)) fun i _ => ?_
      by_cases e : i = o
      · subst e
        rw [if_neg (by omega), if_pos rfl, if_pos (by simp)]
        simp
      · by_cases e2 : o + 1 ≤ i ∧ i < o + 1 + vs.length
        · rw [if_pos e2, if_pos (by simp; omega)]
          rw [show i - o = (i - (o + 1)) + 1 by omega]
          simp
        · rw [if_neg e2, if_neg e, if_neg (by simp; omega)]
  refine World.rowIs.congr (key (P.row T) 0 _ _ h0) fun i hi => ?_
  rw [if_pos (by simp [P.row]; omega)]
  simp [P.row, List.getD_eq_getElem?_getD, hi]

theorem wpList_store_tab {ops : Array Oper} {rest : List Oper} {op : Oper} {a : Act} {Q : Exit → Act → World → Prop} {w1 : World} (hgd : op.guard = none) (x y : Operand) (ho : op.op = .store 227 x y) (T : Tab)
    (hx : a.eval x = .pointer (some ⟨w1.heap.size, 0, none⟩)) (hy : a.eval y = .agg (P.row T).toArray)
    (h : ∀ w2, TabAt w2 w1.heap.size T → Below w1.heap.size w1 w2 → w1.heap.size < w2.heap.size → wpList Tryz.prog ops Q rest (a.put op.dst undef) w2) : wpList Tryz.prog ops Q (op :: rest) a (w1.alloc (.cells #[.bool false, .bool false, .bool false, .bool false, .bool false, .bool false, .bool false, .bool false, .bool false, .bool false, .bool false, .bool false, .bool false, .bool false, .bool false, .bool false, .bool false, .bool false, .bool false, .bool false, .bool false, .bool false, .bool false, .bool false, .bool false] 227)) := by
  have hth := TabAt.there (tab_new w1)
  have hrl : (P.row T).length = 25 := by simp [P.row]
  have h1 : ∀ v ∈ P.row T, v.oneCell' = true := by intro v hv; simp [P.row] at hv; obtain ⟨i, _, rfl⟩ := hv; rfl
  refine wpList_store_mid hgd 227 x y ho w1.heap.size 0 (P.row T).toArray hx hy (by simpa [hrl] using hth) (by simpa [hrl] using Tryz.sizeTab) (all_oneCell_toArray h1) ?_
  have hB : Below w1.heap.size w1 ((w1.alloc (.cells #[.bool false, .bool false, .bool false, .bool false, .bool false, .bool false, .bool false, .bool false, .bool false, .bool false, .bool false, .bool false, .bool false, .bool false, .bool false, .bool false, .bool false, .bool false, .bool false, .bool false, .bool false, .bool false, .bool false, .bool false, .bool false] 227)).setCells w1.heap.size 0 (P.row T)) := below_setCells ((Below.refl _ _).alloc (Nat.le_refl _) _) (Nat.le_refl _) _ _
  have hT := tab_stored w1 T
  exact h _ (by simpa using hT) (by simpa using hB) (by simpa using hT.lt)

theorem high_ok {n : Int} {l seen : List Int} (h : P.high n seen l = 0) : ∀ x ∈ l, 0 ≤ x ∧ x ≤ n - 1 := by
  induction l generalizing seen with
  | nil => simp
  | cons y l ih =>
    rw [P.high] at h
    split at h
    · rename_i hb
      split at h
      · omega
      · intro x hx
        rcases List.mem_cons.1 hx with rfl | hx
        · simp [P.btw] at hb; exact hb
        · exact ih h x hx
    · omega
/-- Numbers of a Higher that is right are different, and below n: so there are at most n. -/
theorem high_nodup {n : Int} {l seen : List Int} (h : P.high n seen l = 0) : l.Nodup ∧ ∀ x ∈ l, ¬ x ∈ seen := by
  induction l generalizing seen with
  | nil => simp
  | cons y l ih =>
    rw [P.high] at h
    split at h
    · split at h
      · omega
      · rename_i hs
        obtain ⟨h1, h2⟩ := ih h
        have hy : ¬ y ∈ seen := by
          intro hm
          apply hs
          unfold P.hasInt
          rw [List.any_eq_true]
          exact ⟨y, hm, by simp⟩
        refine ⟨List.nodup_cons.2 ⟨fun hm => h2 y hm (by simp), h1⟩, fun x hx => ?_⟩
        rcases List.mem_cons.1 hx with rfl | hx
        · exact hy
        · intro hm; exact h2 x hx (by simp [hm])
    · omega
theorem high_len {n : Nat} {l : List Int} (h : P.high n [] l = 0) : l.length ≤ n := by
  have h1 := high_ok h
  have h2 := (high_nodup h).1
  have key : ∀ (n : Nat) (l : List Int), l.Nodup → (∀ x ∈ l, 0 ≤ x ∧ x ≤ (n : Int) - 1) → l.length ≤ n := by
    intro n
    induction n with
    | zero =>
      intro l _ hl
      cases l with
      | nil => simp
      | cons y l => have := hl y (by simp); omega
    | succ n ih =>
      intro l hn hl
      by_cases hm : (n : Int) ∈ l
      · have := ih (l.erase n) (hn.erase _) (fun x hx => by
          have h3 := hl x (List.mem_of_mem_erase hx)
          have h4 : x ≠ n := by
            intro e
            rw [e] at hx
            exact hn.not_mem_erase hx
          omega)
        rw [List.length_erase_of_mem hm] at this
        omega
      · have := ih l hn (fun x hx => by
          have h3 := hl x hx
          have h4 : x ≠ n := fun e => hm (e ▸ hx)
          omega)
        omega
  exact key n l h2 h1

theorem cats_ok {n : Nat} {l : List Cat} {ns : List ByteArray} (h : P.cats n ns l = 0) : ∀ c ∈ l, P.high n [] c.2 = 0 := by
  induction l generalizing ns with
  | nil => simp
  | cons y l ih =>
    rw [P.cats] at h
    split at h
    · split at h
      · rename_i hh
        intro c hc
        rcases List.mem_cons.1 hc with rfl | hc
        · exact hh
        · exact ih h c hc
      · contradiction
    · contradiction

def P.circle (l : List Cat) : Bool := P.some (P.circAt (P.war (P.base l) l.length) l) l.length

set_option maxRecDepth 10000 in
set_option maxHeartbeats 1000000 in
theorem inCircle_any (ao : Option Addr) (cap : Nat) (l : List Cat) (w : World) (hl : CatsAt w ao cap l) (hn : l.length ≤ 5) (hok : ∀ c ∈ l, P.high l.length [] c.2 = 0) :
    Calls Tryz.prog 166 #[.slice ao l.length cap] w fun e w' => e = .returned (.bool (P.circle l)) ∧ Below w.heap.size w w' := by
  have hh : Aside (∀ c ∈ l, ∀ h ∈ c.2, 0 ≤ h ∧ h < l.length) := fun c hc h hx => by have := high_ok (hok c hc) h hx; omega
  have hh5 : Aside (∀ c ∈ l, ∀ h ∈ c.2, 0 ≤ h ∧ h < 5) := fun c hc h hx => by have := high_ok (hok c hc) h hx; omega
  have hs5 : Aside (∀ c ∈ l, c.2.length ≤ 1000) := fun c hc => by have := high_len (hok c hc); omega
  clear hok
  have HC : Aside (P.circle l = P.some (P.circAt (P.war (P.base l) l.length) l) l.length) := rfl
  go_enter Tryz.func166, Tryz.ntmps166
  go_wp2_with fail
  refine (whoServes_any _ _ l _ (SlAt.below RCat.mono hl (by go_grown)) hn hh.out).mono ?_
  rintro e w1 ⟨rfl, hb1⟩
  have hgl : w1.cell? ⟨w.heap.size, 0, none⟩ = some (.slice ao l.length cap) := cellIn hb1 (by simp)
  have hw1 : Below w.heap.size w w1 := bvia (by go_grown) hb1
  generalize P.war (P.base l) l.length = T at HC ⊢
  go_wp2_with (first
    | (refine wpList_store_tab rfl (.tmp 3) (.tmp 5) rfl T rfl rfl ?_; intro w2 hT2 hb2 hlt2; have hgl2 := cellIn hb2 hgl)
    | (go_at_call 212; refine (hasCircle1_any w.heap.size w1.heap.size ao cap l T w2 ⟨hgl2, hT2, SlAt.below RCat.mono hl (bvia hw1 hb2)⟩ hn hs5.out hh5.out).mono ?_; rintro e w3 ⟨rfl, hb3⟩))
  go_ret
  exact ⟨ret_bool HC.out.symm, bvia (bvia hw1 hb2) hb3⟩

def P.shipE (legs souls : Int) (cs : List Cat) (bs : List Cab) : Int :=
  if P.sizeE legs souls cs.length bs.length = 0 then
    (if P.cats cs.length [] cs = 0 then (if P.circle cs = true then 4 else P.cabs cs.length [] bs) else P.cats cs.length [] cs)
  else P.sizeE legs souls cs.length bs.length

theorem size_ok {legs souls : Int} {nc nb : Nat} (h : P.sizeE legs souls nc nb = 0) : 1 ≤ legs ∧ legs ≤ 7 ∧ 1 ≤ souls ∧ souls ≤ 60 ∧ 1 ≤ nc ∧ nc ≤ 5 ∧ 1 ≤ nb ∧ nb ≤ 12 := by
  unfold P.sizeE at h
  split at h
  · rename_i h1
    split at h
    · omega
    · rename_i h2
      split at h
      · omega
      · rename_i h3
        simp [P.btw] at h1 h2 h3
        omega
  · omega

/-- A ship in memory. -/
structure ShipAt (w : World) (cao bao : Option Addr) (cc bc : Nat) (cs : List Cat) (bs : List Cab) : Prop where
  cats : CatsAt w cao cc cs
  cabs : CabsAt w bao bc bs
theorem ShipAt.below {w w' : World} {cao bao : Option Addr} {cc bc : Nat} {cs : List Cat} {bs : List Cab} (h : ShipAt w cao bao cc bc cs bs) (hb : Below w.heap.size w w') : ShipAt w' cao bao cc bc cs bs :=
  ⟨SlAt.below RCat.mono h.cats hb, SlAt.below RCab.mono h.cabs hb⟩
abbrev V.ship (legs souls : Int) (cao bao : Option Addr) (cc bc : Nat) (cs : List Cat) (bs : List Cab) : Value := .agg #[.int .i64 legs, .int .i64 souls, .slice cao cs.length cc, .slice bao bs.length bc]

set_option maxHeartbeats 1000000 in
theorem shipCheck_any (legs souls : Int) (cao bao : Option Addr) (cc bc : Nat) (cs : List Cat) (bs : List Cab) (w : World) (hs : ShipAt w cao bao cc bc cs bs) :
    Calls Tryz.prog 104 #[.agg #[.int .i64 legs, .int .i64 souls, .slice cao cs.length cc, .slice bao bs.length bc]] w fun e w' => e = .returned (.int .i64 (P.shipE legs souls cs bs)) ∧ Below w.heap.size w w' := by
  cases h1 : (P.sizeE legs souls cs.length bs.length != 0)
  · have h1' : P.sizeE legs souls cs.length bs.length = 0 := by simpa using h1
    obtain ⟨_, _, _, _, hc1, hc5, hb1, hb12⟩ := size_ok h1'
    have HE : Aside (P.shipE legs souls cs bs = (if P.cats cs.length [] cs = 0 then (if P.circle cs = true then 4 else P.cabs cs.length [] bs) else P.cats cs.length [] cs)) := by show _ = _; rw [P.shipE, if_pos h1']
    clear h1'
    cases h2 : (P.cats cs.length [] cs != 0)
    · have h2' : P.cats cs.length [] cs = 0 := by simpa using h2
      rw [if_pos h2'] at HE
      have HO : Aside (∀ c ∈ cs, P.high cs.length [] c.2 = 0) := cats_ok h2'
      clear h2'
      cases h3 : P.circle cs
      · have HF : Aside (P.shipE legs souls cs bs = P.cabs cs.length [] bs) := by have := HE.out; rw [h3] at this; exact this
        clear HE
        go_enter Tryz.func104, Tryz.ntmps104
        go_wp2_with (first
          | (go_at_call 164; refine (checkSize_any _ _ _ _ _ _ _ _ _).mono ?_; rintro e w1 ⟨rfl, hbb1⟩; obtain ⟨hcc1, _⟩ := bcell hbb1; have hw1 : Below w.heap.size w w1 := bvia (by go_grown) hbb1; have hz1 : w.heap.size < w1.heap.size := by (have := hbb1.size; simp at this; omega))
          | (go_at_call 165; refine (checkCategories_any _ _ cs _ (hs.below hw1).cats (by omega)).mono ?_; rintro e w2 ⟨rfl, hbb2⟩; obtain ⟨hcc2, _⟩ := bcell hbb2; have hw2 := bvia hw1 hbb2; have hz2 : w.heap.size < w2.heap.size := by (have := hbb2.size; omega))
          | (go_at_call 166; refine (inCircle_any _ _ cs _ (hs.below hw2).cats hc5 HO.out).mono ?_; rintro e w3 ⟨rfl, hbb3⟩; rw [h3]; obtain ⟨hcc3, _⟩ := bcell hbb3; have hw3 := bvia hw2 hbb3)
          | (go_at_call 167; refine (checkCabins_any _ _ bs cs.length _ (hs.below hw3).cabs (by omega) (by omega)).mono ?_; rintro e w4 ⟨rfl, hbb4⟩; have hw4 := bvia hw3 hbb4))
        go_ret
        exact ⟨ret_int HF.out.symm, hw4⟩
      · have HF : Aside (P.shipE legs souls cs bs = 4) := by have := HE.out; rw [h3] at this; exact this
        clear HE
        go_enter Tryz.func104, Tryz.ntmps104
        go_wp2_with (first
          | (go_at_call 164; refine (checkSize_any _ _ _ _ _ _ _ _ _).mono ?_; rintro e w1 ⟨rfl, hbb1⟩; obtain ⟨hcc1, _⟩ := bcell hbb1; have hw1 : Below w.heap.size w w1 := bvia (by go_grown) hbb1; have hz1 : w.heap.size < w1.heap.size := by (have := hbb1.size; simp at this; omega))
          | (go_at_call 165; refine (checkCategories_any _ _ cs _ (hs.below hw1).cats (by omega)).mono ?_; rintro e w2 ⟨rfl, hbb2⟩; obtain ⟨hcc2, _⟩ := bcell hbb2; have hw2 := bvia hw1 hbb2; have hz2 : w.heap.size < w2.heap.size := by (have := hbb2.size; omega))
          | (go_at_call 166; refine (inCircle_any _ _ cs _ (hs.below hw2).cats hc5 HO.out).mono ?_; rintro e w3 ⟨rfl, hbb3⟩; rw [h3]; obtain ⟨hcc3, _⟩ := bcell hbb3; have hw3 := bvia hw2 hbb3))
        go_ret
        exact ⟨ret_int HF.out.symm, hw3⟩
    · rw [if_neg (by simpa using h2)] at HE
      go_enter Tryz.func104, Tryz.ntmps104
      go_wp2_with (first
        | (go_at_call 164; refine (checkSize_any _ _ _ _ _ _ _ _ _).mono ?_; rintro e w1 ⟨rfl, hbb1⟩; obtain ⟨hcc1, _⟩ := bcell hbb1; have hw1 : Below w.heap.size w w1 := bvia (by go_grown) hbb1; have hz1 : w.heap.size < w1.heap.size := by (have := hbb1.size; simp at this; omega))
        | (go_at_call 165; refine (checkCategories_any _ _ cs _ (hs.below hw1).cats (by omega)).mono ?_; rintro e w2 ⟨rfl, hbb2⟩; have hw2 := bvia hw1 hbb2))
      go_ret
      exact ⟨ret_int HE.out.symm, hw2⟩
  · have HE : Aside (P.shipE legs souls cs bs = P.sizeE legs souls cs.length bs.length) := by show _ = _; rw [P.shipE, if_neg (by simpa using h1)]
    go_enter Tryz.func104, Tryz.ntmps104
    go_wp2_with (go_at_call 164; refine (checkSize_any _ _ _ _ _ _ _ _ _).mono ?_; rintro e w1 ⟨rfl, hbb1⟩)
    go_ret
    exact ⟨ret_int HE.out.symm, bvia (by go_grown) hbb1⟩

end Go.Proofs.YtlamhfbdeinkkaeGreat.Sh
/- Walks of Serves and Order of package ship. -/
namespace Go.Proofs.YtlamhfbdeinkkaeGreat.Sh
open Go.RowKit Go.Maps Go.WideMaps
set_option linter.unusedSimpArgs false
set_option linter.unusedVariables false

theorem Tryz.aggRow (w : World) : (isAgg 225).run Tryz.prog w = .ok true w := by kernel_rfl
theorem Tryz.aggBool (w : World) : (isAgg 4).run Tryz.prog w = .ok false w := by kernel_rfl
theorem Tryz.sizeRow (w : World) : (sizeOf 225).run Tryz.prog w = .ok 5 w := by kernel_rfl
theorem Tryz.sizeBool (w : World) : (sizeOf 4).run Tryz.prog w = .ok 1 w := by kernel_rfl

theorem run_tab1 (T : Tab) (a : Nat) (ha : a < 5) (wx : World) : (Instr.index 227 (.agg (P.row T).toArray) (.int .i64 (a : Int))).run Tryz.prog wx = .ok (.agg (List.take 5 (List.drop (a * 5) (P.row T))).toArray) wx := by
  have h1 : (a : Int) < 5 := by omega
  simp [Instr.index, asIntOf, run_underlying Tryz.underlying227, part, Tryz.aggRow, Tryz.sizeRow, h1]
  intro h; omega
theorem run_tab2 (T : Tab) (a b : Nat) (ha : a < 5) (hb : b < 5) (wx : World) : (Instr.index 225 (.agg (List.take 5 (List.drop (a * 5) (P.row T))).toArray) (.int .i64 (b : Int))).run Tryz.prog wx = .ok (.bool (T a b)) wx := by
  have h1 : (b : Int) < 5 := by omega
  have h2 : (List.take 5 (List.drop (a * 5) (P.row T)))[b]? = some (.bool (T a b)) := by
    rw [List.getElem?_take, if_pos hb, List.getElem?_drop]
    have e1 : (a * 5 + b) / 5 = a := by omega
    have e2 : (a * 5 + b) % 5 = b := by omega
    have hlt : a * 5 + b < 25 := by omega
    simp [P.row, hlt, e1, e2]
  simp [Instr.index, asIntOf, run_underlying Tryz.underlying225, part, Tryz.aggBool, Tryz.sizeBool, h1, h2, hb]

def P.servesE (legs souls : Int) (cs : List Cat) (bs : List Cab) (a b : Int) : Int :=
  if P.shipE legs souls cs bs = 0 then (if (P.btw a 0 (cs.length - 1) && P.btw b 0 (cs.length - 1)) = true then 0 else 3) else P.shipE legs souls cs bs
def P.serves (cs : List Cat) (a b : Int) : Bool := P.war (P.base cs) cs.length a.toNat b.toNat
def P.servesB (legs souls : Int) (cs : List Cat) (bs : List Cab) (a b : Int) : Bool := decide (P.servesE legs souls cs bs a b = 0) && P.serves cs a b

theorem ship_ok {legs souls : Int} {cs : List Cat} {bs : List Cab} (h : P.shipE legs souls cs bs = 0) : 1 ≤ cs.length ∧ cs.length ≤ 5 ∧ (∀ c ∈ cs, P.high cs.length [] c.2 = 0) ∧ P.circle cs = false ∧ bs.length ≤ 12 := by
  unfold P.shipE at h
  split at h
  · rename_i h1
    have hz := size_ok h1
    split at h
    · rename_i h2
      split at h
      · omega
      · rename_i h3
        exact ⟨hz.2.2.2.2.1, hz.2.2.2.2.2.1, cats_ok h2, by simpa using h3, hz.2.2.2.2.2.2.2⟩
    · contradiction
  · contradiction

set_option maxHeartbeats 1000000 in
theorem serves_any (legs souls : Int) (cao bao : Option Addr) (cc bc : Nat) (cs : List Cat) (bs : List Cab) (a b : Int) (w : World) (hs : ShipAt w cao bao cc bc cs bs) :
    Calls Tryz.prog 249 #[.agg #[.int .i64 legs, .int .i64 souls, .slice cao cs.length cc, .slice bao bs.length bc], .int .i64 a, .int .i64 b] w fun e w' => e = .returned (.tuple #[.bool (P.servesB legs souls cs bs a b), .int .i64 (P.servesE legs souls cs bs a b)]) ∧ Below w.heap.size w w' := by
  cases h1 : (P.shipE legs souls cs bs != 0)
  · have h1' : P.shipE legs souls cs bs = 0 := by simpa using h1
    obtain ⟨hc1, hc5, hok, _, _⟩ := ship_ok h1'
    have HO : Aside (∀ c ∈ cs, ∀ h ∈ c.2, 0 ≤ h ∧ h < cs.length) := fun c hc h hx => by have := high_ok (hok c hc) h hx; omega
    have HE : Aside (P.servesE legs souls cs bs a b = (if (P.btw a 0 (cs.length - 1) && P.btw b 0 (cs.length - 1)) = true then 0 else 3)) := by show _ = _; rw [P.servesE, if_pos h1']
    clear h1' hok
    cases h2 : P.btw a 0 (cs.length - 1)
    · have HF : Aside (P.servesE legs souls cs bs a b = 3) := by have := HE.out; rw [h2] at this; exact this
      have HB : Aside (P.servesB legs souls cs bs a b = false) := by show _ = _; rw [P.servesB, HF.out]; rfl
      clear HE
      go_enter Tryz.func249, Tryz.ntmps249
      go_wp2_with (first
        | (go_at_call 104; refine (shipCheck_any _ _ _ _ _ _ cs bs _ (hs.below (by go_grown))).mono ?_; rintro e w1 ⟨rfl, hbb1⟩; obtain ⟨hcc1, _⟩ := bcell hbb1; have hw1 : Below w.heap.size w w1 := bvia (by go_grown) hbb1)
        | (go_at_call 208; refine (within_any _ _ _ _).mono ?_; rintro e w2 ⟨rfl, rfl⟩; rw [h2]))
      go_ret2
      exact ⟨by rw [HB.out, HF.out]; rfl, hw1⟩
    · cases h3 : P.btw b 0 (cs.length - 1)
      · have HF : Aside (P.servesE legs souls cs bs a b = 3) := by have := HE.out; rw [h2, h3] at this; exact this
        have HB : Aside (P.servesB legs souls cs bs a b = false) := by show _ = _; rw [P.servesB, HF.out]; rfl
        clear HE
        go_enter Tryz.func249, Tryz.ntmps249
        go_wp2_with (first
          | (go_at_call 104; refine (shipCheck_any _ _ _ _ _ _ cs bs _ (hs.below (by go_grown))).mono ?_; rintro e w1 ⟨rfl, hbb1⟩; obtain ⟨hcc1, _⟩ := bcell hbb1; have hw1 : Below w.heap.size w w1 := bvia (by go_grown) hbb1)
          | (go_at_call 208; refine (within_any _ _ _ _).mono ?_; rintro e w2 ⟨rfl, rfl⟩; first | rw [h2] | rw [h3]))
        go_ret2
        exact ⟨by rw [HB.out, HF.out]; rfl, hw1⟩
      · obtain ⟨A, rfl⟩ : ∃ A : Nat, a = A := ⟨a.toNat, by simp [P.btw] at h2; omega⟩
        obtain ⟨B, rfl⟩ : ∃ B : Nat, b = B := ⟨b.toNat, by simp [P.btw] at h3; omega⟩
        have hA : A < cs.length := by simp [P.btw] at h2; omega
        have hB' : B < cs.length := by simp [P.btw] at h3; omega
        have HF : Aside (P.servesE legs souls cs bs A B = 0) := by have := HE.out; rw [h2, h3] at this; exact this
        have HB : Aside (P.servesB legs souls cs bs A B = P.war (P.base cs) cs.length A B) := by show _ = _; rw [P.servesB, HF.out, P.serves]; simp
        clear HE
        have hx1 := run_tab1 (P.war (P.base cs) cs.length) A (by omega)
        have hx2 := run_tab2 (P.war (P.base cs) cs.length) A B (by omega) (by omega)
        go_enter Tryz.func249, Tryz.ntmps249
        go_wp2_with (first
          | (go_at_call 104; refine (shipCheck_any _ _ _ _ _ _ cs bs _ (hs.below (by go_grown))).mono ?_; rintro e w1 ⟨rfl, hbb1⟩; obtain ⟨hcc1, _⟩ := bcell hbb1; have hw1 : Below w.heap.size w w1 := bvia (by go_grown) hbb1)
          | (go_at_call 208; refine (within_any _ _ _ _).mono ?_; rintro e w2 ⟨rfl, rfl⟩; first | rw [h2] | rw [h3])
          | (go_at_call 211; refine (whoServes_any _ _ cs _ (hs.below hw1).cats hc5 HO.out).mono ?_; rintro e w3 ⟨rfl, hbb3⟩))
        go_ret2
        exact ⟨by rw [HB.out, HF.out]; rfl, bvia hw1 hbb3⟩
  · have HF : Aside (P.servesE legs souls cs bs a b = P.shipE legs souls cs bs) := by show _ = _; rw [P.servesE, if_neg (by simpa using h1)]
    have HB : Aside (P.servesB legs souls cs bs a b = false) := by show _ = _; rw [P.servesB, HF.out, decide_eq_false (by simpa using h1)]; rfl
    go_enter Tryz.func249, Tryz.ntmps249
    go_wp2_with (go_at_call 104; refine (shipCheck_any _ _ _ _ _ _ cs bs _ (hs.below (by go_grown))).mono ?_; rintro e w1 ⟨rfl, hbb1⟩)
    go_ret2
    exact ⟨by rw [HB.out, HF.out]; rfl, bvia (by go_grown) hbb1⟩

end Go.Proofs.YtlamhfbdeinkkaeGreat.Sh
