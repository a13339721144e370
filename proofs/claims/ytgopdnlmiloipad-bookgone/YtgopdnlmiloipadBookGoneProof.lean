/- Proved: the law BookGone answers true for every input, and each argument reads afterwards as before: without a booking that is gone, and right, Spans and Souls answer the same. Conditions: none but those of the row itself. -/
import Derived.Test.YtgopdnlmiloipadOpenF
import Derived.Test.YtgopdnlmiloipadBkT
namespace Go.Proofs.Ytgopdnlmiloipad
open Go.ChangeShapes Go.WideShapes Go.ChangeAt Go.RowKit Go.Deep Go.Joins
set_option linter.unusedSimpArgs false
set_option linter.unusedVariables false

set_option maxRecDepth 100000 in
theorem bookGone_lifted (os : Os) (started : os.Started) (H : Type) (enc : TypeId × Value → H) :
    ReturnsInHanded {} Try.checked os 4 .any (Rows.bookGoneSpec.pre6 enc Try.prog Try.f4 Rows.bookGoneRow.domain false) (Rows.bookGoneSpec.post enc Try.prog Try.f4 false true false false) := by
  refine returnsInHanded_of_change_sized (C := Try.checked) Bk.Try.own started (by kernel_rfl) Try.func4
    (ChangeSpec.witness6 (enc := enc) (C := Try.checked) false ⟨#[], #[.agg #[.int .i64 0, .int .i64 0, .slice none 0 0, .slice none 0 0], .slice none 0 0, .int .i64 0, .int .i64 0], []⟩ 8 (by kernel_rfl) (by kernel_rfl) (by kernel_rfl) (by kernel_rfl)) ?_
  intro W base args ds gs before hval0 hW hcnd hsz0 _
  have hval : ∀ (j : Nat) t v, Try.f4.params[j]? = some t → args[j]? = some v → Value.okWide Try.prog W .any base t v := hval0
  have hW' := hW
  obtain ⟨p, q, hA0, hV, rfl, hfz, hnd⟩ := hW
  have hA : DataW.TrodAll enc Try.prog W 0 (fun _ => true) true Try.f4.params.toList args.toList ds p := hA0
  have hsz : (DataW.weightsEach Try.prog (Try.f4.params.toList ++ Rows.bookGoneSpec.plain.varTypes Try.prog) (ds ++ gs)).all (· ≤ reachBytes) = true := hsz0
  rw [Try.params4] at hA hval hsz
  obtain ⟨v0, vs0, d0, ds0, p0, q0, hargs, rfl, rfl, h0, r0⟩ := trodAll_cons hA
  obtain ⟨v1, vs1, d1, ds1, p1, q1, rfl, rfl, rfl, h1, r1⟩ := trodAll_cons r0
  obtain ⟨v2, vs2, d2, ds2, p2, q2, rfl, rfl, rfl, h2, r2⟩ := trodAll_cons r1
  obtain ⟨v3, vs3, d3, ds3, p3, q3, rfl, rfl, rfl, h3, r3⟩ := trodAll_cons r2
  obtain ⟨rfl, rfl, rfl⟩ := trodAll_nil r3
  obtain rfl : args = #[v0, v1, v2, v3] := by cases args; simp_all
  obtain ⟨rfl, rfl⟩ := trodVars_none hV
  obtain ⟨s0, sa0, rfl, hx0⟩ := Bk.open_ship (hval 0 _ v0 rfl rfl) h0
  obtain ⟨ao1, cap1, l1, rfl, hx1, hd1⟩ := Bk.open_bookings (hval 1 _ v1 rfl rfl) h1
  have hL1 : l1.length ≤ 1353245080300 := by
    rcases hd1 with h | ⟨elems, spare, rfl, he⟩
    · omega
    · have h := sized_slice hsz (j := 1) (t := 31) (e := 30) rfl rfl Try.underlying31
      rw [Bk.Try.bytesBk, he] at h
      simp only [reachBytes] at h
      omega
  obtain ⟨n2, rfl⟩ := Bk.open_int' (hval 2 _ v2 rfl rfl) h2
  obtain ⟨n3, rfl⟩ := Bk.open_int' (hval 3 _ v3 rfl rfl) h3
  clear hA0 hval0 hsz0
  refine (Bk.bookGone_walk s0 sa0 ao1 cap1 l1 n2 n3 W hx0 hx1 hL1).mono fun e W' ⟨he, bel⟩ => ?_
  subst he
  exact ⟨_, rfl, _, _, _, [], _, [], hW', trodAll_mk1 (shut_bool Try.underlying4 _), (trodAll_cons_mk (Below.trod Bk.Try.laidOut (by kernel_rfl) (of_decide_eq_true (by kernel_rfl)) h0 bel (Bk.lt_of_trod h0)) (trodAll_cons_mk (Below.trod Bk.Try.laidOut (by kernel_rfl) (of_decide_eq_true (by kernel_rfl)) h1 bel (Bk.lt_of_trod h1)) (trodAll_cons_mk (Below.trod Bk.Try.laidOut (by kernel_rfl) (of_decide_eq_true (by kernel_rfl)) h2 bel (Bk.lt_of_trod h2)) (trodAll_cons_mk (Below.trod Bk.Try.laidOut (by kernel_rfl) (of_decide_eq_true (by kernel_rfl)) h3 bel (Bk.lt_of_trod h3)) trodAll_mk0)))), rfl, bel.frame _, fun h => by cases h⟩

theorem bookGone_holds : Rows.BookGoneSaid :=
  OpenClaim.holds_of_wide 4 Try.f4 rfl rfl rfl rfl rfl rfl rfl ⟨rfl, rfl, rfl, rfl, rfl⟩ rfl rfl rfl rfl rfl (by kernel_rfl) Try.func4 (by kernel_rfl)
    (of_decide_eq_true (by kernel_rfl)) (by unfold Func.isWrapper; first | (rw [if_pos (by decide +kernel)]; kernel_rfl) | (rw [if_neg (by decide +kernel)]; exact ⟨rfl, rfl⟩))
    (fun os started H enc _ => bookGone_lifted os started H enc)

end Go.Proofs.Ytgopdnlmiloipad
