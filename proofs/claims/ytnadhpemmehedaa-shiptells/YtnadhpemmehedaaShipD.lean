/- Who serves whom: plain facts on the table; the walk of whoServes. -/
import Derived.Test.YtnadhpemmehedaaShipC
import Derived.Deep.OwnRows
import Derived.Deep.MidRow
import Derived.Lib.QuietBelow
import Derived.BigRegion
namespace Go.Proofs.Ytnadhpemmehedaa
open Go.RowKit Go.Maps Go.WideMaps
set_option linter.unusedSimpArgs false
set_option linter.unusedVariables false

abbrev Tab := Nat → Nat → Bool
def P.step (T : Tab) (m : Nat) : Tab := fun a b => T a b || (T a m && T m b)
def P.war (T : Tab) : Nat → Tab
  | 0 => T
  | m + 1 => P.step (P.war T m) m
/-- a stands in b's Higher. -/
def P.edge (l : List Cat) : Tab := fun a b => (l.getD b (ByteArray.empty, [])).2.any fun h => decide (h = (a : Int))
/-- What the program's table begins with. -/
def P.base (l : List Cat) : Tab := fun a b => decide (b < l.length) && (decide (a = b) || P.edge l a b)
/-- .. behind k categories; .. and these of the next one's Higher. -/
def P.done (l : List Cat) (k : Nat) : Tab := fun a b => decide (b < k) && (decide (a = b) || P.edge l a b)
def P.part (l : List Cat) (k : Nat) (hs : List Int) : Tab := fun a b => P.done l k a b || (decide (b = k) && (decide (a = b) || hs.any fun h => decide (h = (a : Int))))

/-- Block B holds the table T. -/
abbrev TabAt (w : World) (B : Nat) (T : Tab) : Prop := w.rowIs B 67 25 (fun i => .bool (T (i / 5) (i % 5)))

theorem TabAt.get {w : World} {B : Nat} {T : Tab} (h : TabAt w B T) {a b : Nat} (ha : a < 5) (hb : b < 5) : w.cell? ⟨B, a * 5 + b, none⟩ = some (.bool (T a b)) := by
  have := World.rowIs.cell h (i := a * 5 + b) (by omega)
  rw [this]
  have e1 : (a * 5 + b) / 5 = a := by omega
  have e2 : (a * 5 + b) % 5 = b := by omega
  rw [e1, e2]

theorem TabAt.put {w : World} {B : Nat} {T T' : Tab} (h : TabAt w B T) {a b : Nat} {v : Bool} (ha : a < 5) (hb : b < 5) (h1 : T' a b = v) (h2 : ∀ x y, x < 5 → y < 5 → ¬ (x = a ∧ y = b) → T' x y = T x y) :
    TabAt (w.setCell ⟨B, a * 5 + b, none⟩ (.bool v)) B T' := by
  refine World.rowIs.congr (World.rowIs.set h (a * 5 + b) (.bool v)) fun i hi => ?_
  by_cases e : i = a * 5 + b
  · rw [if_pos e]
    have e1 : i / 5 = a := by omega
    have e2 : i % 5 = b := by omega
    rw [e1, e2, h1]
  · rw [if_neg e, h2 (i / 5) (i % 5) (by omega) (by omega) (by omega)]

theorem TabAt.congr {w : World} {B : Nat} {T T' : Tab} (h : TabAt w B T) (e : ∀ x y, x < 5 → y < 5 → T x y = T' x y) : TabAt w B T' :=
  World.rowIs.congr h fun i hi => by rw [e _ _ (by omega) (by omega)]

theorem TabAt.below {w w' : World} {B : Nat} {T : Tab} (h : TabAt w B T) (hb : Below w.heap.size w w') : TabAt w' B T :=
  World.rowIs.of_block h (hb.block B h.lt)

theorem zeros25 (i : Nat) (hi : i < 25) : (#[.bool false, .bool false, .bool false, .bool false, .bool false, .bool false, .bool false, .bool false, .bool false, .bool false, .bool false, .bool false, .bool false, .bool false, .bool false, .bool false, .bool false, .bool false, .bool false, .bool false, .bool false, .bool false, .bool false, .bool false, .bool false] : Array Value)[i]? = some (.bool false) := by
  rw [show (#[.bool false, .bool false, .bool false, .bool false, .bool false, .bool false, .bool false, .bool false, .bool false, .bool false, .bool false, .bool false, .bool false, .bool false, .bool false, .bool false, .bool false, .bool false, .bool false, .bool false, .bool false, .bool false, .bool false, .bool false, .bool false] : Array Value) = (List.replicate 25 (.bool false)).toArray from rfl]
  rw [List.getElem?_toArray, List.getElem?_replicate, if_pos hi]
theorem tab_zero1 (w : World) (o : Obj) : TabAt ((w.alloc (.cells #[.bool false, .bool false, .bool false, .bool false, .bool false, .bool false, .bool false, .bool false, .bool false, .bool false, .bool false, .bool false, .bool false, .bool false, .bool false, .bool false, .bool false, .bool false, .bool false, .bool false, .bool false, .bool false, .bool false, .bool false, .bool false] 67)).alloc o) w.heap.size (fun _ _ => false) :=
  World.rowIs.alloc (World.rowIs_alloc w _ _ _ (fun i hi => zeros25 i hi)) _
theorem tab_zero2 (w : World) (o : Obj) (l : List Cat) : TabAt ((w.alloc o).alloc (.cells #[.bool false, .bool false, .bool false, .bool false, .bool false, .bool false, .bool false, .bool false, .bool false, .bool false, .bool false, .bool false, .bool false, .bool false, .bool false, .bool false, .bool false, .bool false, .bool false, .bool false, .bool false, .bool false, .bool false, .bool false, .bool false] 67)) (w.heap.size + 1) (P.done l 0) := by
  have := World.rowIs_alloc (w.alloc o) #[.bool false, .bool false, .bool false, .bool false, .bool false, .bool false, .bool false, .bool false, .bool false, .bool false, .bool false, .bool false, .bool false, .bool false, .bool false, .bool false, .bool false, .bool false, .bool false, .bool false, .bool false, .bool false, .bool false, .bool false, .bool false] 67 (fun i => .bool (P.done l 0 (i / 5) (i % 5))) (fun i hi => by rw [zeros25 i hi]; simp [P.done])
  simpa using this

/-- The table in the midst of a round of m: rows ahead of a, and row a ahead of b, are the round's already. -/
def P.mix (T : Tab) (m a b : Nat) : Tab := fun x y => if x < a ∨ (x = a ∧ y < b) then P.step T m x y else T x y
theorem mix_here (T : Tab) (m a b : Nat) : P.mix T m a b a b = T a b := by
  unfold P.mix; rw [if_neg (by omega)]
theorem mix_am (T : Tab) (m a b : Nat) : P.mix T m a b a m = T a m := by
  unfold P.mix P.step
  split
  · cases T a m <;> simp
  · rfl
theorem mix_mb (T : Tab) (m a b : Nat) : P.mix T m a b m b = T m b := by
  unfold P.mix P.step
  split
  · cases T m b <;> simp
  · rfl

theorem base_out {l : List Cat} (hh : ∀ c ∈ l, ∀ h ∈ c.2, 0 ≤ h ∧ h < l.length) (x y : Nat) (h : l.length ≤ x ∨ l.length ≤ y) : P.base l x y = false := by
  unfold P.base
  by_cases hy : y < l.length
  · have hx : l.length ≤ x := by omega
    have e1 : decide (x = y) = false := by simp; omega
    have e2 : P.edge l x y = false := by
      unfold P.edge
      rw [List.any_eq_false]
      intro v hv hd
      simp at hd
      rw [List.getD_eq_getElem?_getD, List.getElem?_eq_getElem hy] at hv
      have := hh l[y] (List.getElem_mem hy) v hv
      omega
    rw [e1, e2]; simp
  · simp [hy]
theorem war_out {l : List Cat} (hh : ∀ c ∈ l, ∀ h ∈ c.2, 0 ≤ h ∧ h < l.length) (m x y : Nat) (h : l.length ≤ x ∨ l.length ≤ y) : P.war (P.base l) m x y = false := by
  induction m generalizing x y with
  | zero => exact base_out hh x y h
  | succ m ih =>
    rw [P.war, P.step, ih x y h]
    rcases h with h | h
    · rw [ih x m (.inl h)]; rfl
    · rw [ih m y (.inr h)]; simp

/-- A table as its row of cells. -/
def P.row (T : Tab) : List Value := (List.range 25).map fun i => Value.bool (T (i / 5) (i % 5))
theorem TabAt.range {w : World} {B : Nat} {T : Tab} (h : TabAt w B T) : w.rangeAt B 0 (P.row T) := by
  intro j v hv
  obtain ⟨hj, e⟩ := List.getElem?_eq_some_iff.1 hv
  simp [P.row] at hj e
  rw [Nat.zero_add, World.rowIs.cell h hj, ← e]
theorem TabAt.there {w : World} {B : Nat} {T : Tab} (h : TabAt w B T) : w.there B 0 25 := by
  intro j hj
  rw [Nat.zero_add, World.rowIs.cell h hj]
  exact ⟨rfl, World.rowIs.frozen h j⟩
theorem Try.sizeTab : (Try.prog.info? 67).map (·.size) = some 25 := by kernel_rfl
theorem results_cell {fn : Func} {p : Tmp} {ty : TypeId} (h : fn.results = #[.cell p ty]) (tmps : Array Value) (P : Program) (w : World) :
    (results fn tmps).run P w = ((asAddr (tmps.getD p undef)).run P w).andThen fun a w₁ => (loadVar ty a).run P w₁ := by
  simp only [results, h]
  simp [Sem.run_bind, Result.andThen]
theorem below_setCells {w0 w : World} (hB : Below w0.heap.size w0 w) {g : Nat} (hg : w0.heap.size ≤ g) (o : Nat) (vs : List Value) : Below w0.heap.size w0 (w.setCells g o vs) := by
  induction vs generalizing w o with
  | nil => exact hB
  | cons v vs ih => exact ih (hB.setCell (p := ⟨g, o, none⟩) hg v) (o + 1)

set_option maxHeartbeats 2000000 in
theorem whoServes_any (ao : Option Addr) (cap : Nat) (l : List Cat) (w : World) (hl : CatsAt w ao cap l) (hn : l.length ≤ 5) (hh : ∀ c ∈ l, ∀ h ∈ c.2, 0 ≤ h ∧ h < l.length) :
    Calls Try.prog 43 #[.slice ao l.length cap] w fun e w' => e = .returned (.agg (P.row (P.war (P.base l) l.length)).toArray) ∧ Below w.heap.size w w' := by
  have hle := hl.le
  go_enter Try.func43, Try.ntmps43
  go_wp2
  go_loopg [13] l.length (fun g i wr => ∃ (k : Nat), k ≤ l.length ∧ g = l.length - k ∧ i = .int .i64 k ∧ TabAt wr (w.heap.size + 1) (P.done l k) ∧ TabAt wr w.heap.size (fun _ _ => false) ∧ Below w.heap.size w wr)
  case atStart => exact ⟨0, Nat.zero_le _, rfl, rfl, tab_zero2 w _ l, tab_zero1 w _, by go_grown⟩
  case round =>
    obtain ⟨k, hk, rfl, rfl, hT, hZ, hB⟩ := hrel
    have hBs := hB.size
    have hTl := hT.lt
    by_cases hlt : k < l.length
    · obtain ⟨b, off, nm, hs, hao, hcap, rfl, hbw, hd, hcw0, hcw1, hin, hnm⟩ := hl.get (Below.refl _ _) k hlt
      have hc0 := cellIn hB hcw0
      have hc1 := cellIn hB hcw1
      have hfr := hT.frozen (k * 5 + k)
      have hce := hT.get (a := k) (b := k) (by omega) (by omega)
      have HG : Aside (l.getD k (ByteArray.empty, []) = (nm, hs)) := by
        have h1 := List.drop_eq_getElem_cons hlt
        rw [hd] at h1
        simp only [List.cons.injEq] at h1
        show _ = _
        rw [List.getD_eq_getElem?_getD, List.getElem?_eq_getElem hlt, ← h1.1]
        rfl
      have HH : Aside (∀ h ∈ hs, 0 ≤ h ∧ h < l.length) := by
        have hm : (nm, hs) ∈ l := by
          have := List.mem_cons_self (a := (nm, hs)) (l := l.drop (k + 1))
          rw [← hd] at this
          exact List.mem_of_mem_drop this
        exact hh _ hm
      clear hd
      have HT1 : Aside (∀ o : Obj, TabAt ((wr.setCell ⟨w.heap.size + 1, k * 5 + k, none⟩ (.bool true)).alloc o) (w.heap.size + 1) (P.part l k [])) := fun o =>
        World.rowIs.alloc (TabAt.put hT (by omega) (by omega) (by simp [P.part, P.done]) (fun x y hx hy hne => by
          unfold P.part
          by_cases e : y = k
          · subst e; simp [P.done]; intro e2; exact absurd ⟨e2, rfl⟩ hne
          · simp [e])) o
      have HZ1 : Aside (∀ o : Obj, TabAt ((wr.setCell ⟨w.heap.size + 1, k * 5 + k, none⟩ (.bool true)).alloc o) w.heap.size (fun _ _ => false)) := fun o =>
        World.rowIs.alloc (World.rowIs.setOther hZ (by simp) _) o
      go_wp2
      go_loopg [25] hs.length (fun g j wx => ∃ (i : Nat), i ≤ hs.length ∧ g = hs.length - i ∧ j = .int .i64 i ∧ TabAt wx (w.heap.size + 1) (P.part l k (hs.take i)) ∧ TabAt wx w.heap.size (fun _ _ => false) ∧ Below w.heap.size w wx)
      case atStart => exact ⟨0, Nat.zero_le _, rfl, rfl, HT1.out _, HZ1.out _, (hB.setCell (by show w.heap.size ≤ w.heap.size + 1; omega) _).alloc (by simp; omega) _⟩
      case round =>
        clear hT hZ hB hBs hTl hfr hce HT1 HZ1 hc0 hc1
        obtain ⟨i, hi, rfl, rfl, hT, hZ, hB⟩ := hrel
        have hBs := hB.size
        have hTl := hT.lt
        have hhl := hin.le
        have hhm := hin.max
        unfold maxLen at hhm
        by_cases hil : i < hs.length
        · obtain ⟨b2, off2, h, rfl, hb2, hd2, hc2⟩ := hin.get hB i hil
          have hmem : h ∈ hs := by
            have := List.mem_cons_self (a := h) (l := hs.drop (i + 1))
            rw [← hd2] at this
            exact List.mem_of_mem_drop this
          obtain ⟨hh0, hh1⟩ := HH.out h hmem
          obtain ⟨H, rfl⟩ : ∃ H : Nat, h = H := ⟨h.toNat, by omega⟩
          have HD : Aside (hs.take (i + 1) = hs.take i ++ [(H : Int)]) := by
            have h1 := List.drop_eq_getElem_cons hil
            rw [hd2] at h1
            simp only [List.cons.injEq] at h1
            show _ = _
            rw [h1.1, List.take_succ_eq_append_getElem hil]
          clear hd2
          have hfr := hT.frozen (H * 5 + k)
          have hce := hT.get (a := H) (b := k) (by omega) (by omega)
          go_wp2
          go_roundg (hs.length - (i + 1))
          case measure => omega
          case rel =>
            refine ⟨i + 1, by omega, rfl, by go_num, ?_, World.rowIs.setOther hZ (by simp) _, hB.setCell (by simp) _⟩
            refine TabAt.put hT (by omega) (by omega) ?_ ?_
            · unfold P.part; rw [HD.out]; simp
            · intro x y hx hy hne
              unfold P.part
              rw [HD.out]
              by_cases e : y = k
              · subst e
                have : ¬ (H : Int) = (x : Int) := by intro e2; exact hne ⟨by omega, rfl⟩
                simp [this]
              · simp [e]
        · obtain rfl : i = hs.length := by omega
          rw [List.take_of_length_le (Nat.le_refl _)] at hT
          go_wp2
          go_roundg (l.length - (k + 1))
          case measure => omega
          case rel =>
            refine ⟨k + 1, by omega, rfl, by go_num, TabAt.congr hT ?_, hZ, hB⟩
            intro x y hx hy
            unfold P.part P.done P.edge
            by_cases e : y = k
            · subst e
              rw [HG.out]
              simp
            · have e2 : decide (y < k) = decide (y < k + 1) := by rw [decide_eq_decide]; omega
              simp [e, e2]
    · obtain rfl : k = l.length := by omega
      have hT0 : TabAt wr (w.heap.size + 1) (P.war (P.base l) 0) := hT
      clear hT
      go_wp2
      go_loopg [37] l.length (fun g i wx => ∃ (m : Nat), m ≤ l.length ∧ g = l.length - m ∧ i = .int .i64 m ∧ TabAt wx (w.heap.size + 1) (P.war (P.base l) m) ∧ TabAt wx w.heap.size (fun _ _ => false) ∧ Below w.heap.size w wx)
      case atStart => exact ⟨0, Nat.zero_le _, rfl, rfl, hT0, hZ, hB⟩
      case round =>
        clear hT0 hZ hB hBs hTl
        obtain ⟨m, hm, rfl, rfl, hT, hZ, hB⟩ := hrel
        by_cases hml : m < l.length
        · generalize hW : P.war (P.base l) m = T at hT
          have HW : Aside (P.war (P.base l) (m + 1) = P.step T m) := by show _ = _; rw [P.war, hW]
          have HF : Aside (∀ x y, l.length ≤ x ∨ l.length ≤ y → T x y = false) := by intro x y h; rw [← hW]; exact war_out hh m x y h
          clear hW
          go_wp2
          go_loopg [42] l.length (fun g i wx => ∃ (a : Nat), a ≤ l.length ∧ g = l.length - a ∧ i = .int .i64 a ∧ TabAt wx (w.heap.size + 1) (P.mix T m a 0) ∧ TabAt wx w.heap.size (fun _ _ => false) ∧ Below w.heap.size w wx)
          case atStart => exact ⟨0, Nat.zero_le _, rfl, rfl, hT.congr (fun x y _ _ => by simp [P.mix]), hZ, hB⟩
          case round =>
            clear hT hZ hB
            obtain ⟨a, ha, rfl, rfl, hT, hZ, hB⟩ := hrel
            by_cases hal : a < l.length
            · go_wp2
              go_loopg [47] l.length (fun g i wx => ∃ (b : Nat), b ≤ l.length ∧ g = l.length - b ∧ i = .int .i64 b ∧ TabAt wx (w.heap.size + 1) (P.mix T m a b) ∧ TabAt wx w.heap.size (fun _ _ => false) ∧ Below w.heap.size w wx)
              case atStart => exact ⟨0, Nat.zero_le _, rfl, rfl, hT, hZ, hB⟩
              case round =>
                clear hT hZ hB
                obtain ⟨b, hb, rfl, rfl, hT, hZ, hB⟩ := hrel
                by_cases hbl : b < l.length
                · have hfr := hT.frozen (a * 5 + b)
                  have g1 := hT.get (a := a) (b := b) (by omega) (by omega)
                  have g2 := hT.get (a := a) (b := m) (by omega) (by omega)
                  have g3 := hT.get (a := m) (b := b) (by omega) (by omega)
                  rw [mix_here] at g1
                  rw [mix_am] at g2
                  rw [mix_mb] at g3
                  have i1 : (a : Int) < 5 := by omega
                  have i2 : (b : Int) < 5 := by omega
                  have i3 : (m : Int) < 5 := by omega
                  have i4 : (0 : Int) ≤ a := by omega
                  have i5 : (0 : Int) ≤ b := by omega
                  have i6 : (0 : Int) ≤ m := by omega
                  have fin : ∀ v, P.step T m a b = v → TabAt (wr.setCell ⟨w.heap.size + 1, a * 5 + b, none⟩ (.bool v)) (w.heap.size + 1) (P.mix T m a (b + 1)) := fun v hv =>
                    TabAt.put hT (by omega) (by omega) (by unfold P.mix; rw [if_pos (by omega)]; exact hv) (fun x y hx hy hne => by
                      unfold P.mix
                      by_cases e : x < a ∨ (x = a ∧ y < b)
                      · rw [if_pos e, if_pos (by omega)]
                      · rw [if_neg e, if_neg (by omega)])
                  have finZ : ∀ v, TabAt (wr.setCell ⟨w.heap.size + 1, a * 5 + b, none⟩ (.bool v)) w.heap.size (fun _ _ => false) := fun v => World.rowIs.setOther hZ (by simp) _
                  have finB : ∀ v, Below w.heap.size w (wr.setCell ⟨w.heap.size + 1, a * 5 + b, none⟩ (.bool v)) := fun v => hB.setCell (by show w.heap.size ≤ w.heap.size + 1; omega) _
                  have FIN := And.intro fin (And.intro finZ finB)
                  have HFIN : Aside _ := FIN
                  clear fin finZ finB FIN
                  cases t1 : T a b
                  · rw [t1] at g1
                    cases t2 : T a m
                    · rw [t2] at g2
                      have HV : Aside (P.step T m a b = false) := by show _ = _; simp [P.step, t1, t2]
                      clear t1 t2
                      go_wp2
                      go_big_region
                      go_wp2
                      go_roundg (l.length - (b + 1))
                      case measure => omega
                      case rel => exact ⟨b + 1, by omega, rfl, by go_num, HFIN.out.1 _ HV.out, HFIN.out.2.1 _, (HFIN.out.2.2 _).drew⟩
                    · rw [t2] at g2
                      cases t3 : T m b
                      · rw [t3] at g3
                        have HV : Aside (P.step T m a b = false) := by show _ = _; simp [P.step, t1, t2, t3]
                        clear t1 t2 t3
                        go_wp2
                        go_big_region
                        go_wp2
                        go_roundg (l.length - (b + 1))
                        case measure => omega
                        case rel => exact ⟨b + 1, by omega, rfl, by go_num, HFIN.out.1 _ HV.out, HFIN.out.2.1 _, (HFIN.out.2.2 _).drew⟩
                      · rw [t3] at g3
                        have HV : Aside (P.step T m a b = true) := by show _ = _; simp [P.step, t1, t2, t3]
                        clear t1 t2 t3
                        go_wp2
                        go_big_region
                        go_wp2
                        go_roundg (l.length - (b + 1))
                        case measure => omega
                        case rel => exact ⟨b + 1, by omega, rfl, by go_num, HFIN.out.1 _ HV.out, HFIN.out.2.1 _, (HFIN.out.2.2 _).drew⟩
                  · rw [t1] at g1
                    have HV : Aside (P.step T m a b = true) := by show _ = _; simp [P.step, t1]
                    clear t1
                    go_wp2
                    go_big_region
                    go_wp2
                    go_roundg (l.length - (b + 1))
                    case measure => omega
                    case rel => exact ⟨b + 1, by omega, rfl, by go_num, HFIN.out.1 _ HV.out, HFIN.out.2.1 _, (HFIN.out.2.2 _).drew⟩
                · obtain rfl : b = l.length := by omega
                  go_wp2
                  go_roundg (l.length - (a + 1))
                  case measure => omega
                  case rel =>
                    refine ⟨a + 1, by omega, rfl, by go_num, hT.congr fun x y hx hy => ?_, hZ, hB⟩
                    unfold P.mix
                    by_cases e : x < a ∨ (x = a ∧ y < l.length)
                    · rw [if_pos e, if_pos (by omega)]
                    · rw [if_neg e]
                      by_cases e2 : x < a + 1 ∨ (x = a + 1 ∧ y < 0)
                      · rw [if_pos e2, P.step, HF.out x y (.inr (by omega)), HF.out m y (.inr (by omega))]; simp
                      · rw [if_neg e2]
            · obtain rfl : a = l.length := by omega
              go_wp2
              go_roundg (l.length - (m + 1))
              case measure => omega
              case rel =>
                refine ⟨m + 1, by omega, rfl, by go_num, ?_, hZ, hB⟩
                rw [HW.out]
                refine hT.congr fun x y hx hy => ?_
                unfold P.mix
                by_cases e : x < l.length ∨ (x = l.length ∧ y < 0)
                · rw [if_pos e]
                · rw [if_neg e, P.step, HF.out x y (.inl (by omega)), HF.out x m (.inl (by omega))]; simp
        · obtain rfl : m = l.length := by omega
          have hr := TabAt.range hT
          have ht := TabAt.there hZ
          generalize hcs : P.row (P.war (P.base l) l.length) = cs at hr
          have hlen : cs.length = 25 := by rw [← hcs]; simp [P.row]
          have h1 : ∀ v ∈ cs, v.oneCell' = true := by
            rw [← hcs]; intro v hv; simp [P.row] at hv; obtain ⟨i, _, rfl⟩ := hv; rfl
          have hi : (Try.prog.info? 67).map (·.size) = some cs.length := by rw [hlen]; exact Try.sizeTab
          have HC : Aside (P.row (P.war (P.base l) l.length) = cs) := hcs
          clear hcs hT hZ
          go_wp2_with (first
            | (refine wpList_load_mid rfl 67 (.tmp 3) rfl (w.heap.size + 1) 0 rfl cs _ hr Try.underlying67 rfl hi ?_)
            | (refine wpList_store_mid rfl 67 (.tmp 2) (.tmp 76) rfl w.heap.size 0 cs.toArray rfl rfl (by simpa [hlen] using ht) (by simpa using hi) (all_oneCell_toArray h1) ?_))
          refine bodyPost_ret (v := .agg cs.toArray) ?_ rfl ?_
          · rw [results_cell rfl]
            have := World.rangeAt_setCells_same wr w.heap.size 0 cs (by rw [hlen]; exact ht)
            have h3 := run_loadVar_mid (P := Try.prog) (wr.setCells w.heap.size 0 cs) w.heap.size 0 67 cs _ this Try.underlying67 rfl hi
            change ((asAddr (Value.pointer (some ⟨w.heap.size, 0, none⟩))).run Try.prog (wr.setCells w.heap.size 0 cs)).andThen (fun a w₁ => (loadVar 67 a).run Try.prog w₁) = _
            simp [asAddr, h3]
          · refine ⟨by rw [← HC.out], ?_⟩
            exact below_setCells hB (Nat.le_refl _) _ _

end Go.Proofs.Ytnadhpemmehedaa
