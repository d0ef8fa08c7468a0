/- CntFul: for every input tillerkeep.Counted answers true, and its arguments read behind the call as they read before. No condition. -/
import Derived.Test.YthloffgebebijaaCntC
import Derived.Test.YthloffgebebijaaOpenF
import Derived.OpenShut
import Derived.SizedLaws
namespace Go.Proofs.Ythloffgebebijaa
open Go.ChangeShapes Go.WideShapes Go.ChangeAt Go.RowKit Go.Deep

set_option maxRecDepth 100000 in
theorem counted_full (os : Os) (started : os.Started) (H : Type) (enc : TypeId × Value → H) :
    ReturnsInHanded {} Try.checked os 4 .any (Rows.countedSpec.pre6 enc Try.prog Try.f4 Rows.countedRow.domain false) (Rows.countedSpec.post enc Try.prog Try.f4 false true false false) := by
  refine returnsInHanded_of_change_sized (C := Try.checked) Try.ownC started (by kernel_rfl) Try.func4
    (ChangeSpec.witness6 (enc := enc) (C := Try.checked) false ⟨#[], #[.int .i64 0, .int .i64 0, .int .i64 0, .slice none 0 0, .slice none 0 0, .slice none 0 0], []⟩ 8 (by kernel_rfl) (by kernel_rfl) (by kernel_rfl) (by kernel_rfl)) ?_
  intro W base args ds gs before hval0 hW _ hsz0 _
  have hsz : (DataW.weightsEach Try.prog (Try.f4.params.toList ++ Rows.countedSpec.plain.varTypes Try.prog) (ds ++ gs)).all (· ≤ reachBytes) = true := hsz0
  clear hsz0
  have hval : ∀ (j : Nat) t v, Try.f4.params[j]? = some t → args[j]? = some v → Value.okWide Try.prog W .any base t v := hval0
  have hW' := hW
  obtain ⟨p, q, hA0, hV, rfl, _, _⟩ := hW
  have hA : DataW.TrodAll enc Try.prog W 0 (fun _ => true) true Try.f4.params.toList args.toList ds p := hA0
  rw [Try.params4] at hA hval hsz
  obtain ⟨v0, vs0, d0, ds0, p0, q0, hargs, rfl, rfl, h0, r0⟩ := trodAll_cons hA
  obtain ⟨v1, vs1, d1, ds1, p1, q1, rfl, rfl, rfl, h1, r1⟩ := trodAll_cons r0
  obtain ⟨v2, vs2, d2, ds2, p2, q2, rfl, rfl, rfl, h2, r2⟩ := trodAll_cons r1
  obtain ⟨v3, vs3, d3, ds3, p3, q3, rfl, rfl, rfl, h3, r3⟩ := trodAll_cons r2
  obtain ⟨v4, vs4, d4, ds4, p4, q4, rfl, rfl, rfl, h4, r4⟩ := trodAll_cons r3
  obtain ⟨v5, vs5, d5, ds5, p5, q5, rfl, rfl, rfl, h5, r5⟩ := trodAll_cons r4
  obtain ⟨rfl, rfl, rfl⟩ := trodAll_nil r5
  obtain rfl : args = #[v0, v1, v2, v3, v4, v5] := by cases args; simp_all
  obtain ⟨rfl, rfl⟩ := trodVars_none hV
  obtain ⟨x0, rfl, rfl, rfl, w0⟩ := open_int Try.underlying3 (hval 0 _ v0 rfl rfl) h0
  obtain ⟨x1, rfl, rfl, rfl, w1⟩ := open_int Try.underlying3 (hval 1 _ v1 rfl rfl) h1
  obtain ⟨x2, rfl, rfl, rfl, w2⟩ := open_int Try.underlying3 (hval 2 _ v2 rfl rfl) h2
  obtain ⟨a3, l3, c3, rfl⟩ := okWide_slice Try.underlying22 (hval 3 _ v3 rfl rfl)
  obtain ⟨a4, l4, c4, rfl⟩ := okWide_slice Try.underlying36 (hval 4 _ v4 rfl rfl)
  obtain ⟨a5, l5, c5, rfl⟩ := okWide_slice Try.underlying37 (hval 5 _ v5 rfl rfl)
  have h3k := h3
  have h4k := h4
  have h5k := h5
  obtain ⟨fu3, hf3⟩ := h3
  obtain ⟨fu4, hf4⟩ := h4
  obtain ⟨fu5, hf5⟩ := h5
  clear hA0 hval0 r0 r1 r2 r3 r4 hA
  obtain ⟨rs, hraw, hfit, hrl⟩ := rawsC_open hf3
  have hsw : ∀ n ∈ DataW.weights Try.prog 36 d4, n ≤ 140737488355328 := fun n hn => by
    have h := List.all_eq_true.1 hsz n (DataW.weights_mem_each (j := 4) (t := 36) (d := d4) rfl rfl n hn)
    have h' : n ≤ reachBytes := by simpa using h
    simp only [reachBytes] at h'
    omega
  obtain ⟨ss, hstr, hss⟩ := strsF_open hf4 hsw
  obtain ⟨ts, hint, hin, htl⟩ := intsC_open hf5
  obtain ⟨_, _, _, he3, hl3⟩ := lenC Try.underlying22 hf3
  obtain ⟨_, _, _, he4, hl4⟩ := lenC Try.underlying36 hf4
  obtain ⟨_, _, _, he5, hl5⟩ := lenC Try.underlying37 hf5
  have hr3 : rs.length = l3 := by
    obtain ⟨a, cap, hv, _⟩ := hraw
    simp only [Value.slice.injEq] at hv
    exact hv.2.1.symm
  have hr4 : ss.length = l4 := by
    obtain ⟨a, cap, hv, _⟩ := hstr
    simp only [Value.slice.injEq] at hv
    exact hv.2.1.symm
  have hr5 : ts.length = l5 := by
    obtain ⟨a, cap, hv, _⟩ := hint
    simp only [Value.slice.injEq] at hv
    exact hv.2.1.symm
  simp only [Value.slice.injEq] at he3 he4 he5
  obtain ⟨_, rfl, _⟩ := he3
  obtain ⟨_, rfl, _⟩ := he4
  obtain ⟨_, rfl, _⟩ := he5
  have hlen3 : rs.length ≤ 140737488355328 := by
    rcases hl3 with h0 | ⟨es, sp, hx, hl⟩
    · omega
    · simp only at hx
      subst hx
      have := sized_slice hsz (j := 3) (t := 22) (e := 72) rfl rfl Try.underlying22
      rw [bytesC_raw] at this
      simp only [reachBytes] at this
      omega
  have hlen4 : ss.length ≤ 140737488355328 := by
    rcases hl4 with h0 | ⟨es, sp, hx, hl⟩
    · omega
    · simp only at hx
      subst hx
      have := sized_slice hsz (j := 4) (t := 36) (e := 9) rfl rfl Try.underlying36
      rw [bytesC_str] at this
      simp only [reachBytes] at this
      omega
  have hlen5 : ts.length ≤ 140737488355328 := by
    rcases hl5 with h0 | ⟨es, sp, hx, hl⟩
    · omega
    · simp only at hx
      subst hx
      have := sized_slice hsz (j := 5) (t := 37) (e := 3) rfl rfl Try.underlying37
      rw [bytesC_int] at this
      simp only [reachBytes] at this
      omega
  have hlt : ∀ x, x ∈ p3 ∨ x ∈ p4 ∨ x ∈ p5 → x.block < W.heap.size := fun x hx => hW'.lt x (by simp; rcases hx with hx | hx | hx <;> simp [hx])
  refine (counted_true x0 x1 x2 _ _ _ rs ss ts W.heap.size W (bounds_i64 w0) (bounds_i64 w1) (bounds_i64 w2) hraw hstr hint (Nat.le_refl _) hfit hlen3 hlen4 hlen5 hin hss).mono fun e W' ⟨he, hbel⟩ => ?_
  subst he
  have ha3 := Below.trod Try.laidOutC (by kernel_rfl) (of_decide_eq_true (by kernel_rfl)) h3k hbel (fun x hx => hlt x (.inl hx))
  have ha4 := Below.trod Try.laidOutC (by kernel_rfl) (of_decide_eq_true (by kernel_rfl)) h4k hbel (fun x hx => hlt x (.inr (.inl hx)))
  have ha5 := Below.trod Try.laidOutC (by kernel_rfl) (of_decide_eq_true (by kernel_rfl)) h5k hbel (fun x hx => hlt x (.inr (.inr hx)))
  exact ⟨_, rfl, _, _, _, [], _, [], hW', trodAll_mk1 (shut_bool Try.underlying4 _), trodAll_cons_mk (shut_int Try.underlying3 w0) (trodAll_cons_mk (shut_int Try.underlying3 w1) (trodAll_cons_mk (shut_int Try.underlying3 w2) (trodAll_cons_mk ha3 (trodAll_cons_mk ha4 (trodAll_mk1 ha5))))), rfl, hbel.frame _, fun h => by cases h⟩

theorem counted_holds : Rows.CountedSaid :=
  OpenClaim.holds_of_wide 4 Try.f4 rfl rfl rfl rfl rfl rfl rfl ⟨rfl, rfl, rfl, rfl, rfl⟩ rfl rfl rfl rfl rfl (by kernel_rfl) Try.func4 (by kernel_rfl)
    (of_decide_eq_true (by kernel_rfl)) (by unfold Func.isWrapper; first | (rw [if_pos (by decide +kernel)]; kernel_rfl) | (rw [if_neg (by decide +kernel)]; exact ⟨rfl, rfl⟩))
    (fun os started H enc _ => counted_full os started H enc)
#print axioms counted_holds

end Go.Proofs.Ythloffgebebijaa
