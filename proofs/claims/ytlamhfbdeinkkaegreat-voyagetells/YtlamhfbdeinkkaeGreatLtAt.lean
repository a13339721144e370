/- Regions that draw their order, with one operation ('late') that may break the condition: what waits for nothing but may come ahead of it is taken first all the same. -/
import Derived.OrdersHeld
import Derived.Deep.RegionHeld3
import Derived.Test.YtlamhfbdeinkkaeGreatChGt
namespace Go.Proofs.YtlamhfbdeinkkaeGreat.St
open Go

section
variable {P : Program} {ops : Array Oper} {Q : Exit → Act → World → Prop} {md : Region.Mode} {S : World → Prop} {L : Nat}

/-- What has come up has come up behind all that it waits for. -/
def Settled (md : Region.Mode) (ops : Array Oper) (listed : Array Bool) : Prop :=
  ∀ j o, ops[j]? = some o → listed.getD j false = true → ∀ e ∈ o.after, Region.binds md e = true → listed.getD e.on false = true

theorem settled_start (n : Nat) : Settled md ops (Array.replicate n false) := by
  intro j o _ h
  rcases Nat.lt_or_ge j n with h' | h'
  · simp [h'] at h
  · simp [h'] at h

theorem getD_set_cases {listed : Array Bool} {i j : Nat} (h : (listed.setIfInBounds i true).getD j false = true) : j = i ∨ listed.getD j false = true := by
  by_cases hij : i = j
  · exact .inl hij.symm
  · rw [getD_set_ne false hij] at h; exact .inr h

theorem Settled.step {listed : Array Bool} {i : Nat} (h : Settled md ops listed) (hr : i ∈ Region.ready md ops listed) :
    Settled md ops (listed.setIfInBounds i true) := by
  intro j o ho hj e he hb
  obtain ⟨_, oi, hoi, hall⟩ := mem_ready.1 hr
  rcases getD_set_cases hj with rfl | hj'
  · rw [hoi] at ho; cases ho
    exact getD_set_true (hall e he hb)
  · exact getD_set_true (h j o ho hj' e he hb)

/-- Number j waits for number i, through others if need be. -/
def waits (md : Region.Mode) (ops : Array Oper) (i : Nat) : Nat → Nat → Bool
  | 0, _ => false
  | fuel + 1, j => match ops[j]? with
    | none => false
    | some o => o.after.any fun e => Region.binds md e && (e.on == i || waits md ops i fuel e.on)

theorem waits_spec {i : Nat} {listed : Array Bool} (h : Settled md ops listed) : ∀ (fuel j : Nat), waits md ops i fuel j = true →
    listed.getD j false = true → listed.getD i false = true := by
  intro fuel
  induction fuel with
  | zero => intro j hj; simp [waits] at hj
  | succ fuel ih =>
    intro j hj hl
    unfold waits at hj
    split at hj
    · cases hj
    · rename_i o ho
      obtain ⟨e, he, hb⟩ := Array.any_eq_true'.1 hj
      simp only [Bool.and_eq_true, Bool.or_eq_true, beq_iff_eq] at hb
      have hl' := h j o ho hl e he hb.1
      rcases hb.2 with rfl | hw
      · exact hl'
      · exact ih _ hw hl'

/-- Whatever order is picked from here on, and S holds behind every operation AS LONG AS number L has not come up. -/
def wpAnyB (P : Program) (md : Region.Mode) (ops : Array Oper) (Q : Exit → Act → World → Prop) (S : World → Prop) (L : Nat) : Nat → Array Bool → Act → World → Prop
  | 0, listed, a, w => Region.ready md ops listed = [] ∧ Q .normal a w
  | fuel + 1, listed, a, w =>
    (Region.ready md ops listed = [] → Q .normal a w) ∧
    ∀ i ∈ Region.ready md ops listed, wpOp P ops Q i (fun a' w' => ((listed.setIfInBounds i true).getD L false = false → S w') ∧
      wpAnyB P md ops Q S L fuel (listed.setIfInBounds i true) a' w') a w

theorem wpAny_of_before : ∀ (fuel : Nat) (listed : Array Bool) (a : Act) (w : World), wpAnyB P md ops Q S L fuel listed a w → wpAny P md ops Q fuel listed a w
  | 0, _, _, _, h => h
  | fuel + 1, _, _, _, h => ⟨h.1, fun i hi => wpOp_mono (fun a' w' h' => wpAny_of_before fuel _ a' w' h'.2) (h.2 i hi)⟩

theorem getD_unlisted {listed : Array Bool} {i : Nat} (h : listed.getD i true = false) : listed.getD i false = false := by
  rcases Nat.lt_or_ge i listed.size with h' | h'
  · simp [h'] at h ⊢; exact h
  · simp [Array.getElem?_eq_none h'] at h

theorem wpAnyB_first {i n : Nat} {oi : Oper} {v : Value} (hi : ops[i]? = some oi) (hsel : ∀ (j : Nat) (o : Oper) cs b, ops[j]? = some o → o.op ≠ .select cs b)
    (hQ : ∀ c a w, Q (.panic c) (a.put oi.dst v) w → Q (.panic c) a w) (hL : waits md ops i n L = true) (hne : i ≠ L) :
    ∀ (fuel : Nat) (listed : Array Bool) (a : Act) (w : World),
      (∀ j oj, ops[j]? = some oj → j ≠ i → listed.getD j true = false → (∀ e ∈ oj.after, Region.binds md e = true → e.on ≠ i) → oi.apart ops oj = true) →
      Settled md ops listed → i ∈ Region.ready md ops listed → YieldsIf P ops S oi v a → S w →
      wpAnyB P md ops Q S L fuel (listed.setIfInBounds i true) (a.put oi.dst v) w → wpAnyB P md ops Q S L (fuel + 1) listed a w := by
  intro fuel
  induction fuel with
  | zero =>
    intro listed a w _ _ hr hy hS H
    refine ⟨fun h => (by rw [h] at hr; cases hr), fun j hj => ?_⟩
    by_cases hji : j = i
    · subst hji; exact hy.wpOp hi hS ⟨fun _ => hS, H⟩
    · have := ready_mono hj hji
      rw [H.1] at this
      cases this
  | succ fuel ih =>
    intro listed a w hfree hset hr hy hS H
    refine ⟨fun h => (by rw [h] at hr; cases hr), fun j hj => ?_⟩
    by_cases hji : j = i
    · subst hji; exact hy.wpOp hi hS ⟨fun _ => hS, H⟩
    · have h1 := H.2 j (ready_mono hj hji)
      obtain ⟨hjun, oj, hoj, hall⟩ := mem_ready.1 hj
      have hiun := getD_unlisted (mem_ready.1 hr).1
      have hnot : ∀ e ∈ oj.after, Region.binds md e = true → e.on ≠ i := fun e he hb heq => by
        have h1 := hall e he hb
        rw [heq, hiun] at h1; cases h1
      have hset' := hset.step hj
      have hiun' : (listed.setIfInBounds j true).getD i false = false := by rw [getD_set_ne false hji]; exact hiun
      have hLun : (listed.setIfInBounds j true).getD L false = false := by
        cases hl : (listed.setIfInBounds j true).getD L false with
        | false => rfl
        | true => rw [waits_spec hset' n L hL hl] at hiun'; cases hiun'
      have hLun' : ((listed.setIfInBounds i true).setIfInBounds j true).getD L false = false := by
        rw [Array.setIfInBounds_comm _ _ (Ne.symm hji), getD_set_ne false hne]; exact hLun
      have h2 := wpOp_putIf hoj (hfree j oj hoj hji hjun hnot) (fun cs b => hsel i oi cs b hi) (fun cs b => hsel j oj cs b hoj) hQ hy h1
      have hfree' : ∀ k ok, ops[k]? = some ok → k ≠ i → (listed.setIfInBounds j true).getD k true = false →
          (∀ e ∈ ok.after, Region.binds md e = true → e.on ≠ i) → oi.apart ops ok = true := fun k ok hk hki hun hno => by
        refine hfree k ok hk hki ?_ hno
        by_cases hjk : j = k
        · subst hjk; exact hjun
        · rw [getD_set_ne true hjk] at hun; exact hun
      refine wpOp_mono (fun a' w' h3 => ⟨fun _ => h3.2.1 hLun', ih (listed.setIfInBounds j true) a' w' hfree' hset' (ready_mono hr (Ne.symm hji)) h3.1 (h3.2.1 hLun') ?_⟩) h2
      rw [Array.setIfInBounds_comm _ _ hji]
      exact h3.2.2

/-- What yields its value in whatever world may be taken first, too: before or behind number L. -/
theorem wpAnyB_first0 {i : Nat} {oi : Oper} {v : Value} (hi : ops[i]? = some oi) (hsel : ∀ (j : Nat) (o : Oper) cs b, ops[j]? = some o → o.op ≠ .select cs b)
    (hQ : ∀ c a w, Q (.panic c) (a.put oi.dst v) w → Q (.panic c) a w) (hne : i ≠ L) :
    ∀ (fuel : Nat) (listed : Array Bool) (a : Act) (w : World),
      (∀ j oj, ops[j]? = some oj → j ≠ i → listed.getD j true = false → (∀ e ∈ oj.after, Region.binds md e = true → e.on ≠ i) → oi.apart ops oj = true) →
      i ∈ Region.ready md ops listed → Yields P ops oi v a → (listed.getD L false = false → S w) →
      wpAnyB P md ops Q S L fuel (listed.setIfInBounds i true) (a.put oi.dst v) w → wpAnyB P md ops Q S L (fuel + 1) listed a w := by
  intro fuel
  induction fuel with
  | zero =>
    intro listed a w _ hr hy hS H
    refine ⟨fun h => (by rw [h] at hr; cases hr), fun j hj => ?_⟩
    by_cases hji : j = i
    · subst hji; exact hy.wpOp hi ⟨fun h => hS (by rw [getD_set_ne false hne] at h; exact h), H⟩
    · have := ready_mono hj hji
      rw [H.1] at this
      cases this
  | succ fuel ih =>
    intro listed a w hfree hr hy hS H
    refine ⟨fun h => (by rw [h] at hr; cases hr), fun j hj => ?_⟩
    by_cases hji : j = i
    · subst hji; exact hy.wpOp hi ⟨fun h => hS (by rw [getD_set_ne false hne] at h; exact h), H⟩
    · have h1 := H.2 j (ready_mono hj hji)
      obtain ⟨hjun, oj, hoj, hall⟩ := mem_ready.1 hj
      have hiun := getD_unlisted (mem_ready.1 hr).1
      have hnot : ∀ e ∈ oj.after, Region.binds md e = true → e.on ≠ i := fun e he hb heq => by
        have h1 := hall e he hb
        rw [heq, hiun] at h1; cases h1
      have hback : (listed.setIfInBounds j true).getD L false = false → ((listed.setIfInBounds i true).setIfInBounds j true).getD L false = false := fun h => by
        rw [Array.setIfInBounds_comm _ _ (Ne.symm hji), getD_set_ne false hne]; exact h
      have h2 := wpOp_put hoj (hfree j oj hoj hji hjun hnot) (fun cs b => hsel i oi cs b hi) (fun cs b => hsel j oj cs b hoj) hQ hy h1
      have hfree' : ∀ k ok, ops[k]? = some ok → k ≠ i → (listed.setIfInBounds j true).getD k true = false →
          (∀ e ∈ ok.after, Region.binds md e = true → e.on ≠ i) → oi.apart ops ok = true := fun k ok hk hki hun hno => by
        refine hfree k ok hk hki ?_ hno
        by_cases hjk : j = k
        · subst hjk; exact hjun
        · rw [getD_set_ne true hjk] at hun; exact hun
      refine wpOp_mono (fun a' w' h3 => ⟨fun h => h3.2.1 (hback h), ih (listed.setIfInBounds j true) a' w' hfree' (ready_mono hr (Ne.symm hji)) h3.1 (fun h => h3.2.1 (hback h)) ?_⟩) h2
      rw [Array.setIfInBounds_comm _ _ hji]
      exact h3.2.2

/-! ### The moves of a walk -/

theorem wpAnyB_take {i n : Nat} {oi : Oper} {v : Value} {fuel : Nat} {listed : Array Bool} {a : Act} {w : World} (hset : Settled md ops listed) (hi : ops[i]? = some oi)
    (hs : Region.noSelect ops = true) (hf : Region.free md ops listed i = true) (hr : (Region.ready md ops listed).contains i = true)
    (hL : waits md ops i n L = true) (hne : i ≠ L)
    (hQ : ∀ c a w, Q (.panic c) (a.put oi.dst v) w → Q (.panic c) a w) (hy : YieldsIf P ops S oi v a) (hS : S w)
    (h : Settled md ops (listed.setIfInBounds i true) → wpAnyB P md ops Q S L fuel (listed.setIfInBounds i true) (a.put oi.dst v) w) :
    wpAnyB P md ops Q S L (fuel + 1) listed a w :=
  wpAnyB_first hi (Region.noSelect_spec hs) hQ hL hne fuel listed a w (Region.free_spec hi hf) hset (by simpa using hr) hy hS
    (h (hset.step (by simpa using hr)))

theorem wpAnyB_take0 {i : Nat} {oi : Oper} {v : Value} {fuel : Nat} {listed : Array Bool} {a : Act} {w : World} (hset : Settled md ops listed) (hi : ops[i]? = some oi)
    (hs : Region.noSelect ops = true) (hf : Region.free md ops listed i = true) (hr : (Region.ready md ops listed).contains i = true) (hne : i ≠ L)
    (hQ : ∀ c a w, Q (.panic c) (a.put oi.dst v) w → Q (.panic c) a w) (hy : Yields P ops oi v a) (hS : listed.getD L false = false → S w)
    (h : Settled md ops (listed.setIfInBounds i true) → wpAnyB P md ops Q S L fuel (listed.setIfInBounds i true) (a.put oi.dst v) w) :
    wpAnyB P md ops Q S L (fuel + 1) listed a w :=
  wpAnyB_first0 hi (Region.noSelect_spec hs) hQ hne fuel listed a w (Region.free_spec hi hf) (by simpa using hr) hy hS
    (h (hset.step (by simpa using hr)))

theorem wpAnyB_all {rs : List Nat} {fuel : Nat} {listed : Array Bool} {a : Act} {w : World} (hr : Region.ready md ops listed = rs) (hne : rs ≠ [])
    (h : ∀ i ∈ rs, wpOp P ops Q i (fun a' w' => ((listed.setIfInBounds i true).getD L false = false → S w') ∧
      wpAnyB P md ops Q S L fuel (listed.setIfInBounds i true) a' w') a w) : wpAnyB P md ops Q S L (fuel + 1) listed a w :=
  ⟨fun h0 => absurd (hr ▸ h0) hne, hr ▸ h⟩

theorem wpAnyB_done {listed : Array Bool} {a : Act} {w : World} (hr : Region.ready md ops listed = []) (h : Q .normal a w) :
    ∀ fuel, wpAnyB P md ops Q S L fuel listed a w
  | 0 => ⟨hr, h⟩
  | _ + 1 => ⟨fun _ => h, by rw [hr]; simp⟩

/-- The beginning: from the world behind the draw. -/
theorem wp_region_before {id : Nat} {a : Act} {w : World} (hm : P.follows .mixedOrders = true)
    (h : Settled .any ops (Array.replicate ops.size false) → wpAnyB P .any ops Q S L ops.size (Array.replicate ops.size false) a { w with drawn := w.drawn + 1 }) :
    (Code.region id ops true).wp P Q a w :=
  wp_region_any hm (wpAny_of_before _ _ _ _ (h (settled_start _)))

end

/-! ### The same moves, as a walk by hand takes them: what is laid into which slot is told outright -/

section
variable {P : Program} {ops : Array Oper} {Q : Exit → Act → World → Prop} {md : Region.Mode} {S : World → Prop} {L : Nat}
theorem wpAnyB_put {i n : Nat} {oi : Oper} {d : Option Tmp} {v : Value} {fuel : Nat} {listed : Array Bool} {a : Act} {w : World} (hset : Settled md ops listed) (hi : ops[i]? = some oi) (hd : oi.dst = d)
    (hs : Region.noSelect ops = true) (hf : Region.free md ops listed i = true) (hr : (Region.ready md ops listed).contains i = true)
    (hL : waits md ops i n L = true) (hne : i ≠ L)
    (hQ : ∀ c a w, Q (.panic c) (a.put oi.dst v) w → Q (.panic c) a w) (hy : YieldsIf P ops S oi v a) (hS : S w)
    (h : Settled md ops (listed.setIfInBounds i true) → wpAnyB P md ops Q S L fuel (listed.setIfInBounds i true) (a.put d v) w) :
    wpAnyB P md ops Q S L (fuel + 1) listed a w := wpAnyB_take hset hi hs hf hr hL hne hQ hy hS (hd ▸ h)
theorem wpAnyB_put0 {i : Nat} {oi : Oper} {d : Option Tmp} {v : Value} {fuel : Nat} {listed : Array Bool} {a : Act} {w : World} (hset : Settled md ops listed) (hi : ops[i]? = some oi) (hd : oi.dst = d)
    (hs : Region.noSelect ops = true) (hf : Region.free md ops listed i = true) (hr : (Region.ready md ops listed).contains i = true) (hne : i ≠ L)
    (hQ : ∀ c a w, Q (.panic c) (a.put oi.dst v) w → Q (.panic c) a w) (hy : Yields P ops oi v a) (hS : listed.getD L false = false → S w)
    (h : Settled md ops (listed.setIfInBounds i true) → wpAnyB P md ops Q S L fuel (listed.setIfInBounds i true) (a.put d v) w) :
    wpAnyB P md ops Q S L (fuel + 1) listed a w := wpAnyB_take0 hset hi hs hf hr hne hQ hy hS (hd ▸ h)
def StepsB (P : Program) (md : Region.Mode) (ops : Array Oper) (Q : Exit → Act → World → Prop) (S : World → Prop) (L : Nat) (fuel : Nat) (listed : Array Bool) (a : Act) (w : World) (rs : List Nat) : Prop :=
  ∀ i ∈ rs, wpOp P ops Q i (fun a' w' => ((listed.setIfInBounds i true).getD L false = false → S w') ∧ wpAnyB P md ops Q S L fuel (listed.setIfInBounds i true) a' w') a w
theorem StepsB.nil {fuel : Nat} {listed : Array Bool} {a : Act} {w : World} : StepsB P md ops Q S L fuel listed a w [] := fun _ h => by cases h
theorem StepsB.ahead {fuel : Nat} {listed : Array Bool} {a : Act} {w : World} {i : Nat} {o : Oper} {rs : List Nat} (ho : ops[i]? = some o)
    (hset : Settled md ops listed) (hr : (Region.ready md ops listed).contains i = true)
    (h : Settled md ops (listed.setIfInBounds i true) → ∀ K' : Act → World → Prop, Shut (∀ a w, S w → (S w → wpAnyB P md ops Q S L fuel (listed.setIfInBounds i true) a w) → K' a w) →
      if Region.wanted o (yielded ops a.tmps) = true then Oper.wp P o a w K' Q else K' (a.put o.dst undef) w)
    (hs : StepsB P md ops Q S L fuel listed a w rs) : StepsB P md ops Q S L fuel listed a w (i :: rs) := fun j hj => by
  rcases List.mem_cons.1 hj with rfl | hj
  · exact wpOp_step ho (fun K' hK => h (hset.step (by simpa using hr)) K' (fun a w hS hW => hK a w ⟨fun _ => hS, hW hS⟩))
  · exact hs j hj
theorem StepsB.behind {fuel : Nat} {listed : Array Bool} {a : Act} {w : World} {i : Nat} {o : Oper} {rs : List Nat} (ho : ops[i]? = some o)
    (hset : Settled md ops listed) (hr : (Region.ready md ops listed).contains i = true) (hl : (listed.setIfInBounds i true).getD L false = true)
    (h : Settled md ops (listed.setIfInBounds i true) → ∀ K' : Act → World → Prop, Shut (∀ a w, wpAnyB P md ops Q S L fuel (listed.setIfInBounds i true) a w → K' a w) →
      if Region.wanted o (yielded ops a.tmps) = true then Oper.wp P o a w K' Q else K' (a.put o.dst undef) w)
    (hs : StepsB P md ops Q S L fuel listed a w rs) : StepsB P md ops Q S L fuel listed a w (i :: rs) := fun j hj => by
  rcases List.mem_cons.1 hj with rfl | hj
  · exact wpOp_step ho (fun K' hK => h (hset.step (by simpa using hr)) K' (fun a w hW => hK a w ⟨fun h => (by rw [hl] at h; cases h), hW⟩))
  · exact hs j hj
theorem wpAnyB_steps {rs : List Nat} {fuel : Nat} {listed : Array Bool} {a : Act} {w : World} (hr : Region.ready md ops listed = rs) (hne : rs ≠ [])
    (h : StepsB P md ops Q S L fuel listed a w rs) : wpAnyB P md ops Q S L (fuel + 1) listed a w := wpAnyB_all hr hne h
end

end Go.Proofs.YtlamhfbdeinkkaeGreat.St
namespace Go.Proofs.YtlamhfbdeinkkaeGreat.St
open Go.RowKit Bk
set_option linter.unusedSimpArgs false
set_option linter.unusedVariables false
set_option maxRecDepth 10000

set_option maxHeartbeats 16000000 in
theorem cancel1_lit (w : World) (b : Bkg) (pc : Nat) (x : Sail) (a : SailA) (hc : SRow w pc x a) (hs : SailAt w x a) (hE0 : P.SailE x 0) (hm0 : b ∈ x.bks) :
    LitOk w 67 #[.pointer (some ⟨pc, 0, none⟩)] b (P.cnT x b) := by
  intro U base G n k lv fo fc hB hm hO hn hk hE
  show Calls Tryz.prog 67 #[.pointer (some ⟨G, k * 11, none⟩), .pointer (some ⟨pc, 0, none⟩)] U _
  have hkl : k < lv.length := (List.getElem?_eq_some_iff.1 hk).1
  have HO : Aside (OwnB U base (.slice (some ⟨G, 0, none⟩) n n) lv) := hO
  have HK : Aside (lv[k]? = some (b, fo, fc)) := hk
  have HN : Aside (lv.length = n) := hn
  have HE : Aside (Fo.OwnN U (G + 1) (.slice fo b.fol.length fc) b.fol) := hE
  have HKL : Aside (k < lv.length) := hkl
  obtain ⟨cur, r1, r2, r3, hGm⟩ := own_row hO hn (by omega)
  have HGU : Aside (G < U.heap.size) := (Array.getElem?_eq_some_iff.1 r1).1
  have HGM : Aside (base ≤ G) := hGm
  have HPC : Aside (¬ pc = G) := by
    have := hc.lt
    show ¬ _
    omega
  have HC : Aside (SRow U pc x a) := hc.below hB
  have HSL : Aside (SailAt U x a) := hs.below hB
  have HFA : Aside (b.fol.length ≤ 100 ∧ (∀ x ∈ b.fol, -10000000000 ≤ x.2.2 ∧ x.2.2 ≤ 10000000000) ∧ (0 ≤ x.day ∧ x.day ≤ 9999) ∧ (0 ≤ x.lvs ∧ x.lvs ≤ 9999)) := by
    obtain ⟨hp, hf, h0, hbk, _⟩ := sail_ok hE0
    have h1 := (bk_ok (hbk b hm0)).2.2.2.2.2.2.2.2
    have h2 := Fo.folE_len h1
    obtain ⟨_, _, g3, g4, _⟩ := frame_zero hf
    refine ⟨by omega, fun z hz => ?_, by simpa [P.btw] using g3, by simpa [P.btw] using g4⟩
    have := Fo.folE_amt h1 z hz
    omega
  have d0 : U.cell? ⟨pc, 0, none⟩ = some (.int .i64 x.s.legs) := HC.out.cell 0
  have d1 : U.cell? ⟨pc, 1, none⟩ = some (.int .i64 x.s.souls) := HC.out.cell 1
  have d2 : U.cell? ⟨pc, 2, none⟩ = some (.slice a.v.cao x.s.cs.length a.v.cc) := HC.out.cell 2
  have d3 : U.cell? ⟨pc, 3, none⟩ = some (.slice a.v.bao x.s.bs.length a.v.bc) := HC.out.cell 3
  have d4 : U.cell? ⟨pc, 4, none⟩ = some (.slice a.lo x.L.length a.lc) := HC.out.cell 4
  have d5 : U.cell? ⟨pc, 5, none⟩ = some (.int .i64 x.al) := HC.out.cell 5
  have d6 : U.cell? ⟨pc, 6, none⟩ = some (.int .i64 x.th) := HC.out.cell 6
  have d7 : U.cell? ⟨pc, 7, none⟩ = some (.slice a.bo x.B.length a.bc) := HC.out.cell 7
  have d8 : U.cell? ⟨pc, 8, none⟩ = some (.int .i64 x.dn) := HC.out.cell 8
  have d9 : U.cell? ⟨pc, 9, none⟩ = some (.int .i64 x.day) := HC.out.cell 9
  have d10 : U.cell? ⟨pc, 10, none⟩ = some (.int .i64 x.lvs) := HC.out.cell 10
  have d11 : U.cell? ⟨pc, 11, none⟩ = some (.slice a.ao x.bks.length a.cap) := HC.out.cell 11
  have d12 : U.cell? ⟨pc, 12, none⟩ = some (.bool x.cl) := HC.out.cell 12
  have z0 : U.cell? ⟨G, k * 11, none⟩ = some (.int .i64 b.id) := (own_cell HO.out HN.out HK.out 0 (by decide)).1
  have z1 : U.cell? ⟨G, k * 11 + 1, none⟩ = some (.int .i64 b.kind) := (own_cell HO.out HN.out HK.out 1 (by decide)).1
  have z2 : U.cell? ⟨G, k * 11 + 2, none⟩ = some (.int .i64 b.state) := (own_cell HO.out HN.out HK.out 2 (by decide)).1
  have z3 : U.cell? ⟨G, k * 11 + 3, none⟩ = some (.int .i64 b.guests) := (own_cell HO.out HN.out HK.out 3 (by decide)).1
  have z4 : U.cell? ⟨G, k * 11 + 4, none⟩ = some (.bool b.level) := (own_cell HO.out HN.out HK.out 4 (by decide)).1
  have z5 : U.cell? ⟨G, k * 11 + 5, none⟩ = some (.int .i64 b.cabin) := (own_cell HO.out HN.out HK.out 5 (by decide)).1
  have z6 : U.cell? ⟨G, k * 11 + 6, none⟩ = some (.int .i64 b.cat) := (own_cell HO.out HN.out HK.out 6 (by decide)).1
  have z7 : U.cell? ⟨G, k * 11 + 7, none⟩ = some (.int .i64 b.frm) := (own_cell HO.out HN.out HK.out 7 (by decide)).1
  have z8 : U.cell? ⟨G, k * 11 + 8, none⟩ = some (.int .i64 b.to) := (own_cell HO.out HN.out HK.out 8 (by decide)).1
  have z9 : U.cell? ⟨G, k * 11 + 9, none⟩ = some (.int .i64 b.til) := (own_cell HO.out HN.out HK.out 9 (by decide)).1
  have z10 : U.cell? ⟨G, k * 11 + 10, none⟩ = some (.slice fo b.fol.length fc) := (own_cell HO.out HN.out HK.out 10 (by decide)).1
  clear hO hk hn hE hB r1 r2 r3 hkl hc hGm hm hs hE0 hm0
  go_enter Tryz.func67, Tryz.ntmps67
  go_wp2
  go_region_held3 (fun u => u.cell? ⟨pc, 0, none⟩ = some (.int .i64 x.s.legs) ∧ u.cell? ⟨pc, 1, none⟩ = some (.int .i64 x.s.souls) ∧ u.cell? ⟨pc, 2, none⟩ = some (.slice a.v.cao x.s.cs.length a.v.cc) ∧ u.cell? ⟨pc, 3, none⟩ = some (.slice a.v.bao x.s.bs.length a.v.bc) ∧ u.cell? ⟨pc, 4, none⟩ = some (.slice a.lo x.L.length a.lc) ∧ u.cell? ⟨pc, 5, none⟩ = some (.int .i64 x.al) ∧ u.cell? ⟨pc, 6, none⟩ = some (.int .i64 x.th) ∧ u.cell? ⟨pc, 7, none⟩ = some (.slice a.bo x.B.length a.bc) ∧ u.cell? ⟨pc, 8, none⟩ = some (.int .i64 x.dn) ∧ u.cell? ⟨pc, 9, none⟩ = some (.int .i64 x.day) ∧ u.cell? ⟨pc, 10, none⟩ = some (.int .i64 x.lvs) ∧ u.cell? ⟨pc, 11, none⟩ = some (.slice a.ao x.bks.length a.cap) ∧ u.cell? ⟨pc, 12, none⟩ = some (.bool x.cl) ∧ u.cell? ⟨G, k * 11, none⟩ = some (.int .i64 b.id) ∧ u.cell? ⟨G, k * 11 + 1, none⟩ = some (.int .i64 b.kind) ∧ u.cell? ⟨G, k * 11 + 2, none⟩ = some (.int .i64 b.state) ∧ u.cell? ⟨G, k * 11 + 3, none⟩ = some (.int .i64 b.guests) ∧ u.cell? ⟨G, k * 11 + 4, none⟩ = some (.bool b.level) ∧ u.cell? ⟨G, k * 11 + 5, none⟩ = some (.int .i64 b.cabin) ∧ u.cell? ⟨G, k * 11 + 6, none⟩ = some (.int .i64 b.cat) ∧ u.cell? ⟨G, k * 11 + 7, none⟩ = some (.int .i64 b.frm) ∧ u.cell? ⟨G, k * 11 + 8, none⟩ = some (.int .i64 b.to) ∧ u.cell? ⟨G, k * 11 + 9, none⟩ = some (.int .i64 b.til) ∧ u.cell? ⟨G, k * 11 + 10, none⟩ = some (.slice fo b.fol.length fc))
    (first | with_reducible exact ⟨d0, d1, d2, d3, d4, d5, d6, d7, d8, d9, d10, d11, d12, z0, z1, z2, z3, z4, z5, z6, z7, z8, z9, z10⟩ | with_reducible exact ⟨e0, e1, e2, e3, e4, e5, e6, e7, e8, e9, e10, e11, e12, y0, y1, y2, y3, y4, y5, y6, y7, y8, y9, y10⟩ | go_keep)
    (first
      | (go_at_call 68; refine (canPen_any x a b fo fc _ (HSL.out.below (dr _)) (ents_own (OwnC.below HE.out (dr _))) HFA.out.1 HFA.out.2.1 HFA.out.2.2.1.1 HFA.out.2.2.1.2 HFA.out.2.2.2.1 HFA.out.2.2.2.2).mono ?_; rintro e w5 ⟨rfl, hb5'⟩; have hb5 : Below U.heap.size U w5 := bvia (dr _) hb5'; have e0 := cellIn hb5 d0; have e1 := cellIn hb5 d1; have e2 := cellIn hb5 d2; have e3 := cellIn hb5 d3; have e4 := cellIn hb5 d4; have e5 := cellIn hb5 d5; have e6 := cellIn hb5 d6; have e7 := cellIn hb5 d7; have e8 := cellIn hb5 d8; have e9 := cellIn hb5 d9; have e10 := cellIn hb5 d10; have e11 := cellIn hb5 d11; have e12 := cellIn hb5 d12; have y0 := cellIn hb5 z0; have y1 := cellIn hb5 z1; have y2 := cellIn hb5 z2; have y3 := cellIn hb5 z3; have y4 := cellIn hb5 z4; have y5 := cellIn hb5 z5; have y6 := cellIn hb5 z6; have y7 := cellIn hb5 z7; have y8 := cellIn hb5 z8; have y9 := cellIn hb5 z9; have y10 := cellIn hb5 z10))
  have HBL5 : Aside (∀ i, i < U.heap.size → i ≠ G → w5.heap[i]? = U.heap[i]?) := fun i hi _ => hb5.block i hi
  have HB5 : Aside (Below U.heap.size U w5) := hb5
  have HM5 : Aside (Below base U w5) := hb5.mono (by have := HGM.out; have := HGU.out; omega)
  have HO5 : Aside (OwnB w5 base (.slice (some ⟨G, 0, none⟩) n n) lv) := OwnC.below HO.out hb5
  have HE5 : Aside (Fo.OwnN w5 (G + 1) (.slice fo b.fol.length fc) b.fol) := OwnC.below HE.out hb5
  have HC5 : Aside (SRow w5 pc x a) := HC.out.below hb5
  have f2 := (own_cell HO5.out HN.out HK.out 2 (by decide)).2
  have f9 := (own_cell HO5.out HN.out HK.out 9 (by decide)).2
  clear hb5 hb5' d0 d1 d2 d3 d4 d5 d6 d7 d8 d9 d10 d11 d12 z0 z1 z2 z3 z4 z5 z6 z7 z8 z9 z10 e0 e1 e2 e3 e4 e5 e6 e7 e8 e9 e10 e11 e12 y0 y1 y3 y4 y5 y6 y7 y8 y10
  cases hz : (P.canE x b != 0)
  rotate_left
  · have HZ : Aside (¬ P.canE x b = 0) := by show ¬ _; simpa using hz
    have HR : Aside (P.canE x b = P.cnE x b) := by show _ = _; rw [P.cnE, if_neg HZ.out]
    go_wp2
    go_ret
    first
      | exact ⟨_, b, rfl, ⟨HR.out, fun h => absurd h HZ.out⟩, HBL5.out, HM5.out, fun h => absurd h HZ.out⟩
      | exact ⟨_, rfl, b, ⟨HR.out, fun h => absurd h HZ.out⟩, HBL5.out, HM5.out, fun h => absurd h HZ.out⟩
  have HR : Aside (P.cnE x b = Fo.P.canE b.fol x.day (P.canP x b)) := by
    have h0 : P.canE x b = 0 := by simpa using hz
    show _ = _
    rw [P.cnE, if_pos h0]
  have hGU := HGU.out
  have hGM := HGM.out
  have hs5 := HB5.out.size
  obtain ⟨p1, p2⟩ := own_put1 (z := (⟨b.id, b.kind, 3, b.guests, b.level, b.cabin, b.cat, b.frm, b.to, b.til, b.fol⟩, fo, fc)) (v := .int .i64 3) HO5.out HN.out HK.out (j := 2) (by decide) rfl
  obtain ⟨p3, p4⟩ := own_put1 (z := (P.goneB b b.fol, fo, fc)) (v := .int .i64 0) p1 (by rw [List.length_set]; exact HN.out) (List.getElem?_set_self HKL.out) (j := 9) (by decide) rfl
  rw [List.set_set] at p3
  have HO6 : Aside (OwnB ((w5.setCell ⟨G, k * 11 + 2, none⟩ (.int .i64 3)).setCell ⟨G, k * 11 + 9, none⟩ (.int .i64 0)) base (.slice (some ⟨G, 0, none⟩) n n) (lv.set k (P.goneB b b.fol, fo, fc))) := p3
  have HE6 : Aside (Fo.OwnN ((w5.setCell ⟨G, k * 11 + 2, none⟩ (.int .i64 3)).setCell ⟨G, k * 11 + 9, none⟩ (.int .i64 0)) (G + 1) (.slice fo b.fol.length fc) b.fol) := by
    have h1 := OwnC.apart HE5.out p2 (fun r e hv => by cases e; have := (HE5.out.lt _ hv).1; omega)
    exact OwnC.apart h1 p4 (fun r e hv => by cases e; have := (h1.lt _ hv).1; omega)
  have HS6 : Aside (∀ i, i < U.heap.size → i ≠ G → ((w5.setCell ⟨G, k * 11 + 2, none⟩ (.int .i64 3)).setCell ⟨G, k * 11 + 9, none⟩ (.int .i64 0)).heap[i]? = U.heap[i]?) := fun i hi hne => by
    rw [p4.block i (Nat.lt_of_lt_of_le (by omega) p2.size) (by simp; omega), p2.block i (by omega) (by simp; omega)]
    exact HBL5.out i hi hne
  have HM6 : Aside (Below base U ((w5.setCell ⟨G, k * 11 + 2, none⟩ (.int .i64 3)).setCell ⟨G, k * 11 + 9, none⟩ (.int .i64 0))) :=
    below_gr (below_gr HM5.out (by omega) p2 hGM) (Nat.le_trans (by omega) p2.size) p4 hGM
  have HZ6 : Aside (w5.heap.size ≤ ((w5.setCell ⟨G, k * 11 + 2, none⟩ (.int .i64 3)).setCell ⟨G, k * 11 + 9, none⟩ (.int .i64 0)).heap.size) := Nat.le_trans p2.size p4.size
  have HC6 : Aside (SRow ((w5.setCell ⟨G, k * 11 + 2, none⟩ (.int .i64 3)).setCell ⟨G, k * 11 + 9, none⟩ (.int .i64 0)) pc x a) := (HC5.out.gr p2 (by simp; exact HPC.out)).gr p4 (by simp; exact HPC.out)
  clear p1 p2 p3 p4 hGU hGM hs5
  go_wp2
  generalize (w5.setCell ⟨G, k * 11 + 2, none⟩ (.int .i64 3)).setCell ⟨G, k * 11 + 9, none⟩ (.int .i64 0) = w6 at HO6 HE6 HS6 HM6 HZ6 HC6 ⊢
  clear f2 f9 y2 y9 hz
  have HN6 : Aside ((lv.set k (P.goneB b b.fol, fo, fc)).length = n) := by show _ = _; rw [List.length_set]; exact HN.out
  have HK6 : Aside ((lv.set k (P.goneB b b.fol, fo, fc))[k]? = some (P.goneB b b.fol, fo, fc)) := List.getElem?_set_self HKL.out
  have r9 : w6.cell? ⟨pc, 9, none⟩ = some (.int .i64 x.day) := HC6.out.cell 9
  have r10 : w6.cell? ⟨G, k * 11 + 10, none⟩ = some (.slice fo b.fol.length fc) := (own_cell HO6.out HN6.out HK6.out 10 (by decide)).1
  refine wp_region_before (L := 15) (S := fun w : World => w.cell? ⟨pc, 9, none⟩ = some (.int .i64 x.day) ∧ w.cell? ⟨G, k * 11 + 10, none⟩ = some (.slice fo b.fol.length fc)) (by kernel_rfl) (fun hset => ?_)
  have hS : (fun w : World => w.cell? ⟨pc, 9, none⟩ = some (.int .i64 x.day) ∧ w.cell? ⟨G, k * 11 + 10, none⟩ = some (.slice fo b.fol.length fc)) { w6 with drawn := w6.drawn + 1 } := ⟨r9, r10⟩
  refine wpAnyB_put0 (i := 0) (d := (some 24)) (v := ?_) hset rfl rfl (by kernel_rfl) (by kernel_rfl) (by kernel_rfl) (by decide) (fun _ _ _ h => h) (Or.inl ⟨by rfl, ?_⟩) (fun _ => hS) (fun hset => ?_)
  rotate_left
  · (intro w; go_simp; try with_reducible rfl)
  simp only [Act.put, List.setIfInBounds_toArray, List.set_cons_zero, List.set_cons_succ]
  refine wpAnyB_put0 (i := 1) (d := (some 25)) (v := ?_) hset rfl rfl (by kernel_rfl) (by kernel_rfl) (by kernel_rfl) (by decide) (fun _ _ _ h => h) (Or.inl ⟨by rfl, ?_⟩) (fun _ => hS) (fun hset => ?_)
  rotate_left
  · (intro w; go_simp; try with_reducible rfl)
  simp only [Act.put, List.setIfInBounds_toArray, List.set_cons_zero, List.set_cons_succ]
  refine wpAnyB_put0 (i := 2) (d := (some 26)) (v := ?_) hset rfl rfl (by kernel_rfl) (by kernel_rfl) (by kernel_rfl) (by decide) (fun _ _ _ h => h) (Or.inl ⟨by rfl, ?_⟩) (fun _ => hS) (fun hset => ?_)
  rotate_left
  · (intro w; go_simp; try with_reducible rfl)
  simp only [Act.put, List.setIfInBounds_toArray, List.set_cons_zero, List.set_cons_succ]
  refine wpAnyB_put0 (i := 3) (d := (some 27)) (v := ?_) hset rfl rfl (by kernel_rfl) (by kernel_rfl) (by kernel_rfl) (by decide) (fun _ _ _ h => h) (Or.inl ⟨by rfl, ?_⟩) (fun _ => hS) (fun hset => ?_)
  rotate_left
  · (intro w; go_simp; try with_reducible rfl)
  simp only [Act.put, List.setIfInBounds_toArray, List.set_cons_zero, List.set_cons_succ]
  refine wpAnyB_put (i := 4) (n := 40) (d := (some 28)) (v := ?_) hset rfl rfl (by kernel_rfl) (by kernel_rfl) (by kernel_rfl) (by kernel_rfl) (by decide) (fun _ _ _ h => h) (Or.inl ⟨by rfl, ?_⟩) hS (fun hset => ?_)
  rotate_left
  · (intro w hSw; (try dsimp only at hSw); go_simp; try with_reducible rfl)
  simp only [Act.put, List.setIfInBounds_toArray, List.set_cons_zero, List.set_cons_succ]
  refine wpAnyB_put0 (i := 5) (d := (some 29)) (v := ?_) hset rfl rfl (by kernel_rfl) (by kernel_rfl) (by kernel_rfl) (by decide) (fun _ _ _ h => h) (Or.inl ⟨by rfl, ?_⟩) (fun _ => hS) (fun hset => ?_)
  rotate_left
  · (intro w; go_simp; try with_reducible rfl)
  simp only [Act.put, List.setIfInBounds_toArray, List.set_cons_zero, List.set_cons_succ]
  refine wpAnyB_put0 (i := 6) (d := (some 30)) (v := ?_) hset rfl rfl (by kernel_rfl) (by kernel_rfl) (by kernel_rfl) (by decide) (fun _ _ _ h => h) (Or.inl ⟨by rfl, ?_⟩) (fun _ => hS) (fun hset => ?_)
  rotate_left
  · (intro w; go_simp; try with_reducible rfl)
  simp only [Act.put, List.setIfInBounds_toArray, List.set_cons_zero, List.set_cons_succ]
  refine wpAnyB_put (i := 7) (n := 40) (d := (some 31)) (v := ?_) hset rfl rfl (by kernel_rfl) (by kernel_rfl) (by kernel_rfl) (by kernel_rfl) (by decide) (fun _ _ _ h => h) (Or.inl ⟨by rfl, ?_⟩) hS (fun hset => ?_)
  rotate_left
  · (intro w hSw; (try dsimp only at hSw); go_simp; try with_reducible rfl)
  simp only [Act.put, List.setIfInBounds_toArray, List.set_cons_zero, List.set_cons_succ]
  refine wpAnyB_put0 (i := 8) (d := (some 32)) (v := ?_) hset rfl rfl (by kernel_rfl) (by kernel_rfl) (by kernel_rfl) (by decide) (fun _ _ _ h => h) (Or.inl ⟨by rfl, ?_⟩) (fun _ => hS) (fun hset => ?_)
  rotate_left
  · (intro w; go_simp; try with_reducible rfl)
  simp only [Act.put, List.setIfInBounds_toArray, List.set_cons_zero, List.set_cons_succ]
  refine wpAnyB_steps (rs := [9]) (by kernel_rfl) (by simp) ?_
  refine StepsB.ahead rfl hset (by kernel_rfl) (fun hset K hK => ?_) StepsB.nil
  simp only [List.getElem_toArray, List.getElem_cons_succ, List.getElem_cons_zero]
  go_simp
  refine (Fo.cancel_any fo fc b.fol x.day (P.canP x b) _ (ents_own (OwnC.below HE6.out (dr _)))).mono ?_
  rintro e w7 ⟨v, rfl, hv, hb7⟩
  obtain ⟨ao7, cap7, rfl⟩ := OwnC.form hv
  have hb67 : Below w6.heap.size w6 w7 := bvia (dr _) hb7
  have hO7 : OwnB w7 base (.slice (some ⟨G, 0, none⟩) n n) (lv.set k (P.goneB b b.fol, fo, fc)) := OwnC.below HO6.out hb67
  have q10 : w7.cell? ⟨G, k * 11 + 10, none⟩ = some (.slice fo b.fol.length fc) := (own_cell hO7 HN6.out HK6.out 10 (by decide)).1
  have f10 := (own_cell hO7 HN6.out HK6.out 10 (by decide)).2
  refine hK.out _ _ ?_ (fun hS => ?_)
  · exact ⟨cellIn hb67 r9, q10⟩
  clear hK K
  try simp only [Act.put, List.setIfInBounds_toArray, List.set_cons_zero, List.set_cons_succ]
  refine wpAnyB_put0 (i := 10) (d := (some 23)) (v := ?_) hset rfl rfl (by kernel_rfl) (by kernel_rfl) (by kernel_rfl) (by decide) (fun _ _ _ h => h) (Or.inl ⟨by rfl, ?_⟩) (fun _ => hS) (fun hset => ?_)
  rotate_left
  · (intro w; go_simp; try with_reducible rfl)
  simp only [Act.put, List.setIfInBounds_toArray, List.set_cons_zero, List.set_cons_succ]
  refine wpAnyB_put0 (i := 11) (d := (some 34)) (v := ?_) hset rfl rfl (by kernel_rfl) (by kernel_rfl) (by kernel_rfl) (by decide) (fun _ _ _ h => h) (Or.inl ⟨by rfl, ?_⟩) (fun _ => hS) (fun hset => ?_)
  rotate_left
  · (intro w; go_simp; try with_reducible rfl)
  simp only [Act.put, List.setIfInBounds_toArray, List.set_cons_zero, List.set_cons_succ]
  refine wpAnyB_put0 (i := 12) (d := (some 35)) (v := ?_) hset rfl rfl (by kernel_rfl) (by kernel_rfl) (by kernel_rfl) (by decide) (fun _ _ _ h => h) (Or.inl ⟨by rfl, ?_⟩) (fun _ => hS) (fun hset => ?_)
  rotate_left
  · (intro w; go_simp; try with_reducible rfl)
  simp only [Act.put, List.setIfInBounds_toArray, List.set_cons_zero, List.set_cons_succ]
  refine wpAnyB_put0 (i := 13) (d := (some 36)) (v := ?_) hset rfl rfl (by kernel_rfl) (by kernel_rfl) (by kernel_rfl) (by decide) (fun _ _ _ h => h) (Or.inl ⟨by rfl, ?_⟩) (fun _ => hS) (fun hset => ?_)
  rotate_left
  · (intro w; go_simp; try with_reducible rfl)
  simp only [Act.put, List.setIfInBounds_toArray, List.set_cons_zero, List.set_cons_succ]
  refine wpAnyB_put0 (i := 14) (d := (some 37)) (v := ?_) hset rfl rfl (by kernel_rfl) (by kernel_rfl) (by kernel_rfl) (by decide) (fun _ _ _ h => h) (Or.inl ⟨by rfl, ?_⟩) (fun _ => hS) (fun hset => ?_)
  rotate_left
  · (intro w; go_simp; try with_reducible rfl)
  simp only [Act.put, List.setIfInBounds_toArray, List.set_cons_zero, List.set_cons_succ]
  refine wpAnyB_steps (rs := [15]) (by kernel_rfl) (by simp) ?_
  refine StepsB.behind rfl hset (by kernel_rfl) (by kernel_rfl) (fun hset K hK => ?_) StepsB.nil
  simp only [List.getElem_toArray, List.getElem_cons_succ, List.getElem_cons_zero]
  go_simp
  refine hK.out _ _ ?_
  clear hK K
  try simp only [Act.put, List.setIfInBounds_toArray, List.set_cons_zero, List.set_cons_succ]
  refine wpAnyB_put0 (i := 16) (d := (some 5)) (v := ?_) hset rfl rfl (by kernel_rfl) (by kernel_rfl) (by kernel_rfl) (by decide) (fun _ _ _ h => h) (Or.inl ⟨by rfl, ?_⟩) (fun h => absurd h (by decide)) (fun hset => ?_)
  rotate_left
  · (intro w; go_simp; try with_reducible rfl)
  simp only [Act.put, List.setIfInBounds_toArray, List.set_cons_zero, List.set_cons_succ]
  refine wpAnyB_done (by kernel_rfl) ?_ _
  have hGU := HGU.out
  have hGM := HGM.out
  have hs5 := HB5.out.size
  have hs6 := HZ6.out
  have hs7 := hb67.size
  obtain ⟨p1, p2⟩ := own_put1 (z := (P.cnB x b, ao7, cap7)) (v := .slice ao7 (Fo.P.can b.fol x.day (P.canP x b)).length cap7) hO7 HN6.out HK6.out (j := 10) (by decide) rfl
  rw [List.set_set] at p1
  have hv1 : Fo.OwnN w7 (G + 1) (.slice ao7 (Fo.P.can b.fol x.day (P.canP x b)).length cap7) (Fo.P.can b.fol x.day (P.canP x b)) := OwnC.ahead hv (by simp; omega)
  have HE8 : Aside (Fo.OwnN (w7.setCell ⟨G, k * 11 + 10, none⟩ (.slice ao7 (Fo.P.can b.fol x.day (P.canP x b)).length cap7)) (G + 1) (.slice ao7 (Fo.P.can b.fol x.day (P.canP x b)).length cap7) (Fo.P.can b.fol x.day (P.canP x b))) :=
    OwnC.apart hv1 p2 (fun r e hv => by cases e; have := (hv1.lt _ hv).1; omega)
  have HO8 : Aside (OwnB (w7.setCell ⟨G, k * 11 + 10, none⟩ (.slice ao7 (Fo.P.can b.fol x.day (P.canP x b)).length cap7)) base (.slice (some ⟨G, 0, none⟩) n n) (lv.set k (P.cnB x b, ao7, cap7))) := p1
  have HS8 : Aside (∀ i, i < U.heap.size → i ≠ G → (w7.setCell ⟨G, k * 11 + 10, none⟩ (.slice ao7 (Fo.P.can b.fol x.day (P.canP x b)).length cap7)).heap[i]? = U.heap[i]?) := fun i hi hne => by
    rw [p2.block i (by omega) (by simp; omega), hb67.block i (by omega)]
    exact HS6.out i hi hne
  have HB8 : Aside (Below base U (w7.setCell ⟨G, k * 11 + 10, none⟩ (.slice ao7 (Fo.P.can b.fol x.day (P.canP x b)).length cap7))) :=
    below_gr (HM6.out.trans (hb67.mono (by omega))) (by omega) p2 hGM
  clear p1 p2 hv hv1 hb67 hO7 hb7 r9 r10
  go_wp2
  go_ret
  exact ⟨_, rfl, P.cnB x b, ⟨HR.out.symm, fun _ => rfl⟩, HS8.out, HB8.out, fun _ => ⟨ao7, cap7, HO8.out, HE8.out⟩⟩

theorem cancel1_calls' : ∀ (args : Array Value) (wx : World), (callFunc 67 args).run Tryz.prog wx = .ok (.enter 67 args) wx := enters_of Tryz.func67 (by kernel_rfl) rfl

end Go.Proofs.YtlamhfbdeinkkaeGreat.St
