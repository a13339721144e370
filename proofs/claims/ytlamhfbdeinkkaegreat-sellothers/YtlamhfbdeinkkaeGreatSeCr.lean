/- slices.Insert, of one booking, into a list that has no room. -/
import Derived.Test.YtlamhfbdeinkkaeGreatSeBr
import Derived.Lib.AppendZerosOnto
import Derived.Deep.RegionHeld3
namespace Go.Proofs.YtlamhfbdeinkkaeGreat.St
open Go.RowKit Bk
set_option linter.unusedSimpArgs false
set_option linter.unusedVariables false
set_option maxRecDepth 10000

/-- 'copy' of bookings into the midst of a row. -/
theorem wp_cpB {o : Oper} {act : Act} {K : Act → World → Prop} {Q : Exit → Act → World → Prop} {w : World} (d s : Operand) (ho : o.op = .call { callee := .builtin .copy, args := #[d, s], argTypes := #[30, 30] })
    (g off dLen dCap : Nat) (ao : Option Addr) (sLen sCap : Nat) (l : List BkV) (A M B : List Value) (t : TypeId) (hd : act.eval d = .slice (some ⟨g, off, none⟩) dLen dCap) (hs : act.eval s = .slice ao sLen sCap) (hl : SlAt (RC cellsV) 11 w ao sCap l) (hlen : l.length = sLen) (hle : sLen ≤ dLen) (h0 : 0 < sLen)
    (hr : w.heap[g]? = some (.cells (A ++ M ++ B).toArray t (0, 0))) (hA : A.length = off) (hM : M.length = sLen * 11)
    (h : ∀ w', w'.heap[g]? = some (.cells (A ++ l.flatMap cellsV ++ B).toArray t (0, 0)) → w.grownBy w' (some g) → K (act.put o.dst (.int .i64 (sLen : Nat))) w') : o.wp Tryz.prog act w K Q := by
  subst hlen
  obtain ⟨b, of, rfl, hn⟩ := SlAt.news cellsV_len hl h0 (by decide)
  have hmin : Nat.min l.length dLen = l.length := Nat.min_eq_left hle
  have hfl : (l.flatMap cellsV).length = l.length * 11 := flatC_len cellsV_len l
  have hone : ∀ v ∈ l.flatMap cellsV, v.oneCell' = true := fun u hu => by
    obtain ⟨y, _, hy⟩ := List.mem_flatMap.1 hu
    exact cellsV_one y u hy
  have hld := run_loadCells_list (P := Tryz.prog) w ⟨b, of, none⟩ (l.flatMap cellsV) hn
  have hst := run_storeCells_at Tryz.prog g off t (l.flatMap cellsV) 0 (A ++ M ++ B).toArray w hr (by simp [hfl]; omega) hone
  have hl2 : (A ++ M ++ B).toArray.toList.take off ++ l.flatMap cellsV ++ (A ++ M ++ B).toArray.toList.drop (off + (l.flatMap cellsV).length) = A ++ l.flatMap cellsV ++ B := by
    have e1 : (A ++ M ++ B).take off = A := by rw [List.append_assoc, List.take_append_of_le_length (by omega), List.take_of_length_le (by omega)]
    have e2 : (A ++ M ++ B).drop (off + (l.flatMap cellsV).length) = B := by
      rw [hfl, ← hA, ← hM, ← List.length_append, List.drop_left]
    show (A ++ M ++ B).take off ++ _ ++ (A ++ M ++ B).drop _ = _
    rw [e1, e2]
  simp only [Nat.add_zero] at hst
  rw [hl2] at hst
  rw [hfl] at hld
  have hrun : (Builtin.copy_ #[30, 30] o.type #[.slice (some ⟨g, off, none⟩) dLen dCap, .slice (some ⟨b, of, none⟩) l.length sCap]).run Tryz.prog w = .ok (.int .i64 (l.length : Nat)) (w.setRow g (A ++ l.flatMap cellsV ++ B).toArray) := by
    simp [Builtin.copy_, run_underlying Tryz.underlying30, Builtin.lenOf, Builtin.firstCells, run_sizeBk, hmin, hld, hst, goInt]
  unfold Oper.wp execOp
  simp only [ho, resolve, invoke, builtin, Sem.run_bind, Sem.run_pure, Result.andThen_ok, List.map_toArray, List.map_cons, List.map_nil, hd, hs, hrun]
  exact h _ (setRow_heap w g _ _ t (0, 0) hr) ⟨rfl, rfl, rfl, by simp, fun i hi hne => setRow_other w g i _ (fun e => hne (by rw [e]))⟩

theorem wpList_cpB {ops : Array Oper} {rest : List Oper} {o : Oper} {act : Act} {Q : Exit → Act → World → Prop} {w : World} (hgd : o.guard = none) (d s : Operand) (ho : o.op = .call { callee := .builtin .copy, args := #[d, s], argTypes := #[30, 30] })
    (g off dLen dCap : Nat) (ao : Option Addr) (sLen sCap : Nat) (l : List BkV) (A M B : List Value) (t : TypeId) (hd : act.eval d = .slice (some ⟨g, off, none⟩) dLen dCap) (hs : act.eval s = .slice ao sLen sCap) (hl : SlAt (RC cellsV) 11 w ao sCap l) (hlen : l.length = sLen) (hle : sLen ≤ dLen) (h0 : 0 < sLen)
    (hr : w.heap[g]? = some (.cells (A ++ M ++ B).toArray t (0, 0))) (hA : A.length = off) (hM : M.length = sLen * 11)
    (h : ∀ w', w'.heap[g]? = some (.cells (A ++ l.flatMap cellsV ++ B).toArray t (0, 0)) → w.grownBy w' (some g) → wpList Tryz.prog ops Q rest (act.put o.dst (.int .i64 (sLen : Nat))) w') : wpList Tryz.prog ops Q (o :: rest) act w :=
  wpList_plain hgd fun _ hK => wp_cpB d s ho g off dLen dCap ao sLen sCap l A M B t hd hs hl hlen hle h0 hr hA hM fun w' h1 h2 => hK _ _ (h w' h1 h2)

theorem own_of_row {w : World} {g n cap base : Nat} {l : List BkV} {B : List Value} (hr : w.heap[g]? = some (.cells (l.flatMap cellsV ++ B).toArray 37 (0, 0))) (hn : l.length = n) (hcap : n ≤ cap) (hmax : cap ≤ maxLen) (hsz : n * 11 + B.length = cap * 11) (hb : base ≤ g) : OwnB w base (.slice (some ⟨g, 0, none⟩) n cap) l := by
  subst hn
  have hfl : (l.flatMap cellsV).length = l.length * 11 := flatC_len cellsV_len l
  refine ⟨hfl, .inr ⟨g, cap, _, rfl, hb, hr, hcap, hmax, by simp [hfl]; omega, ?_⟩⟩
  show (l.flatMap cellsV ++ B).take _ = _
  rw [← hfl, List.take_left]

theorem insert_list {lv : List BkV} {z : BkV} {i : Nat} : (lv.take i).flatMap cellsV ++ cellsV z ++ (lv.drop i).flatMap cellsV = (lv.take i ++ z :: lv.drop i).flatMap cellsV := by
  rw [List.flatMap_append, List.flatMap_cons, List.append_assoc]

set_option maxHeartbeats 8000000 in
theorem insert_own (lv : List BkV) (n i : Nat) (hn : lv.length = n) (hi : i ≤ n) (h16 : n ≤ 1000) (G H m : Nat) (b : Bkg) (fo : Option Addr) (fc : Nat) (w : World) (hm : m ≤ w.heap.size) (hO : OwnB w m (.slice (some ⟨G, 0, none⟩) n n) lv) (h1 : SlAt (RC cellsV) 11 w (some ⟨H, 0, none⟩) 1 [(b, fo, fc)]) :
    Calls Tryz.prog 163 #[.slice (some ⟨G, 0, none⟩) n n, .int .i64 i, .slice (some ⟨H, 0, none⟩) 1 1] w fun e w' => ∃ G' cap, e = .returned (.slice (some ⟨G', 0, none⟩) (n + 1) cap) ∧ OwnB w' m (.slice (some ⟨G', 0, none⟩) (n + 1) cap) (lv.take i ++ (b, fo, fc) :: lv.drop i) ∧ w.grownBy w' (some G) := by
  have HN : Aside (lv.length = n) := hn
  have HO : Aside (OwnB w m (.slice (some ⟨G, 0, none⟩) n n) lv) := hO
  have H1 : Aside (SlAt (RC cellsV) 11 w (some ⟨H, 0, none⟩) 1 [(b, fo, fc)]) := h1
  have htl := fun (wx : World) => run_tailB (some ⟨G, 0, none⟩) n n i hi wx
  have hhd := fun (wx : World) => run_headB (some ⟨G, 0, none⟩) n n i hi wx
  have HS : Aside (SlAt (RC cellsV) 11 w (tailOf 11 (some ⟨G, 0, none⟩) n i) (n - i) (lv.drop i)) := by
    have h : SlAt (RC cellsV) 11 w (some ⟨G, 0, none⟩) n (lv.take i ++ lv.drop i) := by
      rw [List.take_append_drop]
      exact own_at cellsV_len hO
    have := SlAt.rest h
    rw [List.length_take, hn, Nat.min_eq_left hi] at this
    exact this
  generalize htao : tailOf 11 (some ⟨G, 0, none⟩) n i = tao at htl HS
  generalize hni : n - i = d at htl HS
  have HD : Aside (n - i = d) := hni
  clear hO h1 hn hni htao
  rcases Nat.lt_or_ge i n with hlt | hge
  · obtain ⟨i0, hinf, hz0, hs0, hby⟩ := info_parts Tryz.infoBk
    obtain ⟨k, hk⟩ : ∃ k, n + 1 - i = k := ⟨_, rfl⟩
    have hk0 : 0 < k := by omega
    have hki : ((k : Nat) : Int) = (n : Int) + 1 - (i : Int) := by omega
    have hik : i + k = n + 1 := by omega
    have hlk : (lv.take i).length = i := by rw [List.length_take, HN.out]; omega
    have hX : ((lv.take i).flatMap cellsV).length = i * 11 := by rw [flatC_len cellsV_len, hlk]
    have hold : (Builtin.firstCells i0.size i (.slice (some ⟨G, 0, none⟩) i n)).run Tryz.prog w.drew = .ok ((lv.take i).flatMap cellsV).toArray w.drew := by
      rw [hs0]
      refine run_firstCells_some (P := Tryz.prog) w.drew 11 i ⟨G, 0, none⟩ i n ((lv.take i).flatMap cellsV) hX (fun j u hj => ?_)
      have hj2 := (List.getElem?_eq_some_iff.1 hj).1
      have hO2 : OwnB w m (.slice (some ⟨G, 0, none⟩) lv.length lv.length) lv := by
        rw [HN.out]
        exact HO.out
      have hc := World.ownsRow.cellAt hO2 j (by rw [HN.out]; rw [hX] at hj2; have := Nat.mul_le_mul_right 11 hi; omega)
      have e : (lv.flatMap cellsV)[j]? = some u := by
        rw [← List.take_append_drop i lv, List.flatMap_append, List.getElem?_append_left (by omega)]
        exact hj
      rw [e] at hc
      rw [Go.WideShapes.add_plain]
      simpa using hc
    have hrz := fun (ty : TypeId) => Lib.run_append_grow_zeros w 30 3 ty 37 i0 _ .i64 .i64 Tryz.underlying30 Tryz.underlying3 hinf hz0 (some ⟨G, 0, none⟩) i n ((lv.take i).flatMap cellsV) hold k hk0 (by omega) (by omega) (by omega) (by rw [hby]; omega) (growslice_fits (by omega) (by rw [hby]; omega))
    simp only [hik, hki] at hrz
    have hG := grownCap_le_maxLen w (n + 1) n 37 (by unfold maxLen; omega)
    have hG2 := grownCap_ge w (n + 1) n 37
    generalize grownCap w (n + 1) n 37 = Gc at hrz hG hG2
    obtain ⟨Zs, hZs⟩ : ∃ Zs : List Value, (Builtin.zeroCells (Value.cells (.agg #[.int .i64 0, .int .i64 0, .int .i64 0, .int .i64 0, .bool false, .int .i64 0, .int .i64 0, .int .i64 0, .int .i64 0, .int .i64 0, .slice none 0 0])) k ++ Builtin.zeroCells (Value.cells (.agg #[.int .i64 0, .int .i64 0, .int .i64 0, .int .i64 0, .bool false, .int .i64 0, .int .i64 0, .int .i64 0, .int .i64 0, .int .i64 0, .slice none 0 0])) (Gc - (n + 1))) = Zs.toArray := ⟨_, (Array.toArray_toList ..).symm⟩
    have hZl : Zs.length = (Gc - i) * 11 := by
      have := congrArg Array.size hZs
      rw [Array.size_append, size_zeroCells, size_zeroCells] at this
      simp [Value.cells] at this
      omega
    obtain ⟨M1, M2, B, hMM, hM1, hM2, hBl⟩ : ∃ M1 M2 B : List Value, Zs = M1 ++ (M2 ++ B) ∧ M1.length = 1 * 11 ∧ M2.length = d * 11 ∧ (n + 1) * 11 + B.length = Gc * 11 := by
      have hd := HD.out
      refine ⟨Zs.take 11, (Zs.drop 11).take (d * 11), (Zs.drop 11).drop (d * 11), by rw [List.take_append_drop, List.take_append_drop], ?_, ?_, ?_⟩
      · rw [List.length_take]; omega
      · rw [List.length_take, List.length_drop]; omega
      · rw [List.length_drop, List.length_drop]; omega
    obtain ⟨X, hXe⟩ : ∃ X, (lv.take i).flatMap cellsV = X := ⟨_, rfl⟩
    rw [hXe] at hX hrz
    have hrow : X.toArray ++ Builtin.zeroCells (Value.cells (.agg #[.int .i64 0, .int .i64 0, .int .i64 0, .int .i64 0, .bool false, .int .i64 0, .int .i64 0, .int .i64 0, .int .i64 0, .int .i64 0, .slice none 0 0])) k ++ Builtin.zeroCells (Value.cells (.agg #[.int .i64 0, .int .i64 0, .int .i64 0, .int .i64 0, .bool false, .int .i64 0, .int .i64 0, .int .i64 0, .int .i64 0, .int .i64 0, .slice none 0 0])) (Gc - (n + 1)) = (X ++ M1 ++ (M2 ++ B)).toArray := by
      rw [Array.append_assoc, hZs, hMM]
      simp
    simp only [hrow] at hrz
    have HXE : Aside ((lv.take i).flatMap cellsV = X) := hXe
    have HX : Aside (X.length = i * 11) := hX
    have HM1 : Aside (M1.length = 1 * 11) := hM1
    have HM2 : Aside (M2.length = d * 11) := hM2
    have HBL : Aside ((n + 1) * 11 + B.length = Gc * 11) := hBl
    have hd1 : d = n - i := HD.out.symm
    have htl2 : ∀ wx : World, (Instr.slice 30 (.slice (some ⟨w.heap.size, 0, none⟩) (n + 1) Gc) (some (.int .i64 (i : Int))) none none).run Tryz.prog wx = .ok (.slice (some ⟨w.heap.size, i * 11, none⟩) k (Gc - i)) wx := fun wx => by
      have h := run_tailB (some ⟨w.heap.size, 0, none⟩) (n + 1) Gc i (by omega) wx
      rw [tailOf, if_neg (by omega), hk] at h
      simp only [Option.map, Go.WideShapes.add_plain, Nat.zero_add] at h
      exact h
    have htl3 : ∀ wx : World, (Instr.slice 30 (.slice (some ⟨w.heap.size, 0, none⟩) (n + 1) Gc) (some (.int .i64 ((i : Int) + 1))) none none).run Tryz.prog wx = .ok (.slice (some ⟨w.heap.size, (i + 1) * 11, none⟩) d (Gc - (i + 1))) wx := fun wx => by
      have h := run_tailB (some ⟨w.heap.size, 0, none⟩) (n + 1) Gc (i + 1) (by omega) wx
      rw [tailOf, if_neg (by omega), show n + 1 - (i + 1) = d by omega] at h
      have ec : ((i + 1 : Nat) : Int) = (i : Int) + 1 := by omega
      rw [ec] at h
      simp only [Option.map, Go.WideShapes.add_plain, Nat.zero_add] at h
      exact h
    obtain ⟨R0, hR0⟩ : ∃ R0, (X ++ M1 ++ (M2 ++ B)).toArray = R0 := ⟨_, rfl⟩
    simp only [hR0] at hrz
    have HR0 : Aside ((w.alloc (.cells R0 37)).drew.heap[w.heap.size]? = some (.cells (X ++ M1 ++ (M2 ++ B)).toArray 37 (0, 0))) := by
      show _ = _
      rw [hR0]
      exact heap_alloc_new w _
    have HB0 : Aside (Below w.heap.size w (w.alloc (.cells R0 37)).drew) := by
      show Below _ _ _
      go_grown
    clear hR0
    clear hrow hZs hZl hMM hM1 hM2 hBl hX hXe hold hd1
    obtain rfl : k = d + 1 := by have := HD.out; omega
    have hd0 : 0 < d := by have := HD.out; omega
    have hin : ¬ ((i : Int) = (n : Int)) := by omega
    have hin2 : ((i : Int) == (n : Int)) = false := by simp; omega
    have HLD : Aside ((lv.drop i).length = d) := by show _ = _; rw [List.length_drop, HN.out, HD.out]
    have hw1 : IntKind.i64.wrap ((i : Int) + 1) = (i : Int) + 1 := by rw [IntKind.wrap_i64]; omega
    go_enter Tryz.func163, Tryz.ntmps163
    go_wp2_with (first
      | (at_builtin; refine Lib.wpList_append_run _ rfl _ _ _ _ rfl _ _ rfl rfl _ _ (hrz _) ?_)
      | (refine wpList_cpB rfl _ _ (by rfl) w.heap.size (i * 11) (d + 1) (Gc - i) (some ⟨H, 0, none⟩) 1 1 [(b, fo, fc)] X M1 (M2 ++ B) 37 (by rfl) (by rfl) (SlAt.below (RC.mono _) H1.out HB0.out) rfl (by omega) (by decide) HR0.out HX.out HM1.out ?_; intro w1 hr1 hg1))
    have hb1 : Below w.heap.size w w1 := below_gr HB0.out HB0.out.size hg1 (Nat.le_refl _)
    have HR1 : Aside (w1.heap[w.heap.size]? = some (.cells ((X ++ cellsV (b, fo, fc)) ++ M2 ++ B).toArray 37 (0, 0))) := by
      have e : X ++ List.flatMap cellsV [(b, fo, fc)] ++ (M2 ++ B) = (X ++ cellsV (b, fo, fc)) ++ M2 ++ B := by simp
      rw [e] at hr1
      exact hr1
    have HXY : Aside ((X ++ cellsV (b, fo, fc)).length = (i + 1) * 11) := by show _ = _; rw [List.length_append, HX.out, cellsV_len]; omega
    clear hr1 hg1
    go_region_held3 (fun _ => True) (exact trivial)
      (first | (refine step_of' (by rfl) (wp_cpB _ _ (by rfl) w.heap.size ((i + 1) * 11) d (Gc - (i + 1)) tao d d (lv.drop i) (X ++ cellsV (b, fo, fc)) M2 B 37 (by rfl) (by rfl) (SlAt.below (RC.mono _) HS.out (bvia hb1 (by go_grown))) HLD.out (Nat.le_refl _) hd0 HR1.out HXY.out HM2.out ?_); intro w2 hr2 hg2))
    have hb2 : Below w.heap.size w w2 := by
      first
        | exact below_gr hb1 hb1.size hg2 (Nat.le_refl _)
        | exact below_gr (bvia hb1 (show Below w1.heap.size w1 w1.drew by go_grown)) hb1.size hg2 (Nat.le_refl _)
    have HOF : Aside (OwnB w2 m (.slice (some ⟨w.heap.size, 0, none⟩) (n + 1) Gc) (lv.take i ++ (b, fo, fc) :: lv.drop i)) := by
      rw [← HXE.out, insert_list] at hr2
      exact own_of_row hr2 (by rw [List.length_append, List.length_cons, List.length_take, List.length_drop, HN.out]; omega) hG2 hG HBL.out hm
    clear hr2 hg2
    go_wp2
    go_ret
    exact ⟨w.heap.size, Gc, rfl, HOF.out, ⟨hb2.os, hb2.tape, hb2.output, hb2.size, fun k hk _ => hb2.block k hk⟩⟩
  · obtain rfl : i = n := by omega
    go_enter Tryz.func163, Tryz.ntmps163
    go_wp2_with (at_builtin; refine wpList_app_many Tryz.infoBk Tryz.underlying30 rfl (by decide) cellsV_len cellsV_one (by decide) rfl _ _ (by rfl) m (.slice (some ⟨G, 0, none⟩) i i) lv (some ⟨H, 0, none⟩) 1 [(b, fo, fc)] (by rfl) HO.out (by rfl) H1.out hm (by have := HN.out; omega) (by simp) ?_; intro v1 w1 own1 gr1)
    go_ret
    obtain ⟨G', cap, hv, _, _⟩ := World.ownsRow.form own1 (by simp)
    subst hv
    have hlen : (lv ++ [(b, fo, fc)]).length = i + 1 := by rw [List.length_append, HN.out]; rfl
    rw [hlen] at own1 ⊢
    have e1 : lv.take i = lv := List.take_of_length_le (by rw [HN.out]; exact Nat.le_refl _)
    have e2 : lv.drop i = [] := List.drop_of_length_le (by rw [HN.out]; exact Nat.le_refl _)
    exact ⟨G', cap, rfl, by rw [e1, e2]; exact own1, gr1⟩

end Go.Proofs.YtlamhfbdeinkkaeGreat.St
