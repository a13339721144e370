/- Proved: the law BookTells answers true for every input, and each argument reads afterwards as before: Check, Spans and Souls of bookings answer just what the document says, errors too. Conditions: none but those of the row itself. -/
import Derived.Test.YtgopdnlmiloipadOpenF
import Derived.Test.YtgopdnlmiloipadBkQ
namespace Go.Proofs.Ytgopdnlmiloipad
open Go.ChangeShapes Go.WideShapes Go.ChangeAt Go.RowKit Go.Deep Go.Joins
set_option linter.unusedSimpArgs false
set_option linter.unusedVariables false

set_option maxRecDepth 100000 in
theorem bookTells_lifted (os : Os) (started : os.Started) (H : Type) (enc : TypeId × Value → H) :
    ReturnsInHanded {} Try.checked os 3 .any (Rows.bookTellsSpec.pre6 enc Try.prog Try.f3 Rows.bookTellsRow.domain false) (Rows.bookTellsSpec.post enc Try.prog Try.f3 false true false false) := by
  refine returnsInHanded_of_change_sized (C := Try.checked) Bk.Try.own started (by kernel_rfl) Try.func3
    (ChangeSpec.witness6 (enc := enc) (C := Try.checked) false ⟨#[], #[.agg #[.int .i64 0, .int .i64 0, .slice none 0 0, .slice none 0 0], .agg #[.int .i64 0, .int .i64 0, .int .i64 0, .int .i64 0, .bool false, .int .i64 0, .int .i64 0, .int .i64 0, .int .i64 0, .int .i64 0, .slice none 0 0], .slice none 0 0, .int .i64 0], []⟩ 8 (by kernel_rfl) (by kernel_rfl) (by kernel_rfl) (by kernel_rfl)) ?_
  intro W base args ds gs before hval0 hW hcnd hsz0 _
  have hval : ∀ (j : Nat) t v, Try.f3.params[j]? = some t → args[j]? = some v → Value.okWide Try.prog W .any base t v := hval0
  have hW' := hW
  obtain ⟨p, q, hA0, hV, rfl, hfz, hnd⟩ := hW
  have hA : DataW.TrodAll enc Try.prog W 0 (fun _ => true) true Try.f3.params.toList args.toList ds p := hA0
  have hsz : (DataW.weightsEach Try.prog (Try.f3.params.toList ++ Rows.bookTellsSpec.plain.varTypes Try.prog) (ds ++ gs)).all (· ≤ reachBytes) = true := hsz0
  rw [Try.params3] at hA hval hsz
  obtain ⟨v0, vs0, d0, ds0, p0, q0, hargs, rfl, rfl, h0, r0⟩ := trodAll_cons hA
  obtain ⟨v1, vs1, d1, ds1, p1, q1, rfl, rfl, rfl, h1, r1⟩ := trodAll_cons r0
  obtain ⟨v2, vs2, d2, ds2, p2, q2, rfl, rfl, rfl, h2, r2⟩ := trodAll_cons r1
  obtain ⟨v3, vs3, d3, ds3, p3, q3, rfl, rfl, rfl, h3, r3⟩ := trodAll_cons r2
  obtain ⟨rfl, rfl, rfl⟩ := trodAll_nil r3
  obtain rfl : args = #[v0, v1, v2, v3] := by cases args; simp_all
  obtain ⟨rfl, rfl⟩ := trodVars_none hV
  obtain ⟨s0, sa0, rfl, hx0⟩ := Bk.open_ship (hval 0 _ v0 rfl rfl) h0
  obtain ⟨b1, fo1, fc1, rfl, hx1⟩ := Bk.open_booking (hval 1 _ v1 rfl rfl) h1
  obtain ⟨ao2, cap2, l2, rfl, hx2, hd2⟩ := Bk.open_bookings (hval 2 _ v2 rfl rfl) h2
  have hL2 : l2.length ≤ 1353245080300 := by
    rcases hd2 with h | ⟨elems, spare, rfl, he⟩
    · omega
    · have h := sized_slice hsz (j := 2) (t := 31) (e := 30) rfl rfl Try.underlying31
      rw [Bk.Try.bytesBk, he] at h
      simp only [reachBytes] at h
      omega
  obtain ⟨n3, rfl⟩ := Bk.open_int' (hval 3 _ v3 rfl rfl) h3
  clear hA0 hval0 hsz0
  refine (Bk.bookTells_walk s0 sa0 b1 fo1 fc1 ao2 cap2 l2 n3 W hx0 hx1 hx2 hL2).mono fun e W' ⟨he, bel⟩ => ?_
  subst he
  exact ⟨_, rfl, _, _, _, [], _, [], hW', trodAll_mk1 (shut_bool Try.underlying4 _), (trodAll_cons_mk (Below.trod Bk.Try.laidOut (by kernel_rfl) (of_decide_eq_true (by kernel_rfl)) h0 bel (Bk.lt_of_trod h0)) (trodAll_cons_mk (Below.trod Bk.Try.laidOut (by kernel_rfl) (of_decide_eq_true (by kernel_rfl)) h1 bel (Bk.lt_of_trod h1)) (trodAll_cons_mk (Below.trod Bk.Try.laidOut (by kernel_rfl) (of_decide_eq_true (by kernel_rfl)) h2 bel (Bk.lt_of_trod h2)) (trodAll_cons_mk (Below.trod Bk.Try.laidOut (by kernel_rfl) (of_decide_eq_true (by kernel_rfl)) h3 bel (Bk.lt_of_trod h3)) trodAll_mk0)))), rfl, bel.frame _, fun h => by cases h⟩

theorem bookTells_holds : Rows.BookTellsSaid :=
  OpenClaim.holds_of_wide 3 Try.f3 rfl rfl rfl rfl rfl rfl rfl ⟨rfl, rfl, rfl, rfl, rfl⟩ rfl rfl rfl rfl rfl (by kernel_rfl) Try.func3 (by kernel_rfl)
    (of_decide_eq_true (by kernel_rfl)) (by unfold Func.isWrapper; first | (rw [if_pos (by decide +kernel)]; kernel_rfl) | (rw [if_neg (by decide +kernel)]; exact ⟨rfl, rfl⟩))
    (fun os started H enc _ => bookTells_lifted os started H enc)

end Go.Proofs.Ytgopdnlmiloipad
