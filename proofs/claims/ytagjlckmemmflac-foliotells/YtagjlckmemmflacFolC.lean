/- Walks of every, Cancel's literal, sums, sum. -/
import Derived.Test.YtagjlckmemmflacFolB
namespace Go.Proofs.Ytagjlckmemmflac
open Go.RowKit Go.Shelf
set_option linter.unusedSimpArgs false
set_option linter.unusedVariables false
attribute [local go_sem] Oper.semAt_some

set_option maxHeartbeats 400000 in
theorem every_any (x : Ent) (w : World) : Calls Try.prog 43 #[V.ent x] w fun e w' => e = .returned (.bool true) ∧ Below w.heap.size w w' := by
  go_enter Try.func43, Try.ntmps43
  go_wp2
  go_ret
  exact ⟨rfl, by go_grown⟩

def P.isFare (x : Ent) : Bool := decide (x.2.1 = 1) || decide (x.2.1 = 4)

set_option maxHeartbeats 400000 in
theorem cancel1_any (x : Ent) (w : World) : Calls Try.prog 45 #[V.ent x] w fun e w' => e = .returned (.bool (P.isFare x)) ∧ Below w.heap.size w w' := by
  obtain ⟨d, k, a⟩ := x
  by_cases h1 : k = 1
  · subst h1
    go_enter Try.func45, Try.ntmps45
    go_wp2
    go_ret
    exact ⟨rfl, by go_grown⟩
  · have h1' : (k == 1) = false := by simpa using h1
    go_enter Try.func45, Try.ntmps45
    go_wp2
    go_ret
    exact ⟨ret_bool (by by_cases h4 : k = 4 <;> simp [P.isFare, h1, h4]), by go_grown⟩

abbrev V.seq (b c : Nat) : Value := .func (.func 57) #[] #[.pointer (some ⟨b, 0, none⟩), .pointer (some ⟨c, 0, none⟩)]
abbrev W.seq (w : World) (ao : Option Addr) (cap len F : Nat) : World := (w.alloc (.cells #[.slice ao len cap] 42)).alloc (.cells #[.func (.func F) #[] #[]] 68)

set_option maxHeartbeats 400000 in
theorem sums_any (ao : Option Addr) (cap len F : Nat) (w : World) :
    Calls Try.prog 49 #[.slice ao len cap, .func (.func F) #[] #[]] w fun e w' => e = .returned (V.seq w.heap.size (w.heap.size + 1)) ∧ w' = W.seq w ao cap len F := by
  go_enter Try.func49, Try.ntmps49
  go_wp2
  go_ret
  exact ⟨rfl, rfl⟩

/-- 'sums(l, counts)' hands back a value that gives the sums. -/
theorem sums_stops (n : Nat) (hn : 1 ≤ n) (Bl Bc n₀ : Nat) (ao : Option Addr) (cap : Nat) (es : List Ent) (F : Nat) (p : Ent → Bool) (w : World)
    (hcf : ∀ (args : Array Value) (wx : World), (callFunc F args).run Try.prog wx = .ok (.enter F args) wx)
    (hp : Hid (∀ (x : Ent) (wx : World), Calls Try.prog F #[V.ent x] wx fun e w' => e = .returned (.bool (p x)) ∧ Below wx.heap.size wx w'))
    (w0 : World) (hw0 : w0.heap.size = n₀) (hb0 : Below n₀ w0 w) (hes : EntsAt w0 ao cap es) (h12 : es.length ≤ 12) (ha : ∀ x ∈ es, -100000000 ≤ x.2.2 ∧ x.2.2 ≤ 100000000)
    (hBl : w.cell? ⟨Bl, 0, none⟩ = some (.slice ao es.length cap)) (hBc : w.cell? ⟨Bc, 0, none⟩ = some (.func (.func F) #[] #[])) :
    SeqStopsK Fence.wide n Try.prog 57 #[.pointer (some ⟨Bl, 0, none⟩), .pointer (some ⟨Bc, 0, none⟩)] (fun x : Int => #[Value.int .i64 x]) (Kept n₀ Bc) (fun ys => ys = P.sumsL p 0 es) (fun pre => pre <+: P.sumsL p 0 es) es.length w :=
  fun l J Jx W hW hJ hJx hY h0 =>
    sums1_in n hn l Bl Bc n₀ ao cap es F p J Jx W hcf hp hJ hJx hY w0 hw0 (hb0.trans (hW.mono (by have := hb0.size; subst hw0; exact this))) hes h12 ha (cellIn hW hBl) (cellIn hW hBc) h0

/-- A cell that was laid just now; old cells and old marks behind a block more. -/
theorem newCell (W : World) (v : Value) (t : TypeId) : (W.alloc (.cells #[v] t)).cell? ⟨W.heap.size, 0, none⟩ = some v ∧ (W.alloc (.cells #[v] t)).frozen? ⟨W.heap.size, 0, none⟩ = false := by
  constructor <;> simp
theorem oldCell {W : World} {a : Addr} {v : Value} (o : Obj) (h : W.cell? a = some v) : (W.alloc o).cell? a = some v := cell_kept h (World.grownBy_alloc W o none) (fun r e => by cases e)
theorem oldMark {W : World} {a : Addr} {v : Value} (o : Obj) (h : W.cell? a = some v) (hf : W.frozen? a = false) : (W.alloc o).frozen? a = false := (frozen_kept h (World.grownBy_alloc W o none) (fun r e => by cases e)).trans hf

/-- The last one. -/
def P.last : List Int → Int := List.foldl (fun _ x => x) 0
theorem last_snoc (l : List Int) (x : Int) : P.last (l ++ [x]) = x := by simp [P.last]

set_option maxRecDepth 100000 in
set_option maxHeartbeats 4000000 in
theorem folioSum_any (ao : Option Addr) (cap : Nat) (es : List Ent) (F : Nat) (p : Ent → Bool) (w : World)
    (hcf : ∀ (args : Array Value) (wx : World), (callFunc F args).run Try.prog wx = .ok (.enter F args) wx)
    (hp : Hid (∀ (x : Ent) (wx : World), Calls Try.prog F #[V.ent x] wx fun e w' => e = .returned (.bool (p x)) ∧ Below wx.heap.size wx w'))
    (hes : EntsAt w ao cap es) (h12 : es.length ≤ 12) (ha : ∀ x ∈ es, -100000000 ≤ x.2.2 ∧ x.2.2 ≤ 100000000) :
    Calls Try.prog 42 #[.slice ao es.length cap, .func (.func F) #[] #[]] w fun e w' => e = .returned (.int .i64 (P.last (P.sumsL p 0 es))) ∧ Below w.heap.size w w' := by
  refine (callsIn_wide (n := 3)).1 ?_
  refine callsIn_of_wp_marks Try.func42 rfl trivial ?_ rfl
  simp only [Try.ntmps42, List.size_toArray, List.length_cons, List.length_nil, Nat.reduceAdd, Nat.reduceSub, Array.replicate_succ, Array.replicate_zero, List.push_toArray, List.append_toArray, List.nil_append, List.cons_append]
  gi_wp2_with (refine ⟨trivial, ?_⟩; gi_at_call 49; refine (callsIn_wide.2 (sums_any ao cap es.length F _)).mono ?_; rintro e w' ⟨rfl, rfl⟩)
  have c0 := newCell w (.int .i64 0) 3
  have q0 : (W.seq (w.alloc (.cells #[.int .i64 0] 3)) ao cap es.length F).cell? ⟨w.heap.size, 0, none⟩ = some (.int .i64 0) := oldCell _ (oldCell _ c0.1)
  have qf : (W.seq (w.alloc (.cells #[.int .i64 0] 3)) ao cap es.length F).frozen? ⟨w.heap.size, 0, none⟩ = false := oldMark _ (oldCell _ c0.1) (oldMark _ c0.1 c0.2)
  have q1 : (W.seq (w.alloc (.cells #[.int .i64 0] 3)) ao cap es.length F).cell? ⟨w.heap.size + 1, 0, none⟩ = some (.slice ao es.length cap) := by
    have := newCell (w.alloc (.cells #[.int .i64 0] 3)) (.slice ao es.length cap) 42
    rw [World.size_alloc] at this
    exact oldCell _ this.1
  have q2 : (W.seq (w.alloc (.cells #[.int .i64 0] 3)) ao cap es.length F).cell? ⟨w.heap.size + 1 + 1, 0, none⟩ = some (.func (.func F) #[] #[]) := by
    have := newCell ((w.alloc (.cells #[.int .i64 0] 3)).alloc (.cells #[.slice ao es.length cap] 42)) (.func (.func F) #[] #[]) 68
    rw [World.size_alloc, World.size_alloc] at this
    exact this.1
  have hsz : (W.seq (w.alloc (.cells #[.int .i64 0] 3)) ao cap es.length F).heap.size = w.heap.size + 1 + 1 + 1 := by simp [W.seq]
  have hB0 : Below w.heap.size w (W.seq (w.alloc (.cells #[.int .i64 0] 3)) ao cap es.length F) := (((Below.refl _ w).alloc (Nat.le_refl _) _).alloc (by simp) _).alloc (by simp; omega) _
  refine wpIn_rangeFunc_ownF rfl (by omega) (gf := 57) (lb := #[.pointer (some ⟨w.heap.size + 1, 0, none⟩), .pointer (some ⟨w.heap.size + 1 + 1, 0, none⟩)]) rfl trivial (enters_of Try.func57 (by kernel_rfl) rfl)
    (sums_stops 2 (by omega) (w.heap.size + 1) (w.heap.size + 1 + 1) w.heap.size ao cap es F p _ hcf hp w rfl hB0 hes h12 ha q1 q2) Kept.t (Kept.b (by omega) (by omega)) (Below.refl _ _) (fun _ => rfl)
    (fun pre W => (W.cell? ⟨w.heap.size, 0, none⟩ = some (.int .i64 (P.last pre)) ∧ W.frozen? ⟨w.heap.size, 0, none⟩ = false) ∧ Below w.heap.size w W)
    (fun _ _ _ => False)
    (OwnFrom.and (Own.from (fun s A B row hs hg hr => ⟨cell_kept hs.1 hg hr, (frozen_kept hs.1 hg hr).trans hs.2⟩) _) (ownFrom_below (Nat.le_refl _) (by omega)))
    (fun _ _ _ _ _ hs _ _ => hs)
    ⟨⟨q0, qf⟩, hB0⟩
    (fun x => { tmps := #[.slice ao es.length cap, .func (.func F) #[] #[], undef, undef, .int .i64 0, .pointer (some ⟨w.heap.size, 0, none⟩), .int .i64 x, .slice ao es.length cap, .func (.func F) #[] #[], V.seq (w.heap.size + 1) (w.heap.size + 1 + 1), .int .i64 x, undef, undef], defers := [] }) ?assign ?body ?done ?stop
  case assign =>
    intro l x W K hK
    gi_wp2
    exact hK
  case body =>
    rintro l pre x W ⟨⟨hc, hf⟩, hB⟩ _
    gi_wp2
    exact ⟨KeepsOthers.setCell _ _ _, ⟨(Below.refl w.heap.size W).setCell (p := ⟨w.heap.size, 0, none⟩) (Nat.le_refl _) _, fun v hv => by rw [World.cell?_setCell_other (h := by simp)]; exact hv⟩, ⟨by rw [last_snoc]; exact World.cell?_setCell_same' _ _ _ (by rw [hc]; rfl), by rw [World.frozen?_setCell]; exact hf⟩, hB.setCell (p := ⟨w.heap.size, 0, none⟩) (Nat.le_refl _) _⟩
  case done =>
    rintro D ys W hD rfl ⟨⟨hc, _⟩, hB⟩ hK
    gi_wp2
    refine ⟨by simp, .inl ⟨_, _, rfl, run_takeDeferred hK, ?_⟩⟩
    exact ⟨_, results_tmp rfl _ _ _, rfl, hB.trans (belowK_b (w := w) (Nat.le_refl _) W D _ _ (by omega) hK rfl rfl)⟩
  case stop =>
    rintro D c pre W _ _ h _
    exact h.elim

end Go.Proofs.Ytagjlckmemmflac
