/- OpenW: messages that come, as the statement's data. -/
import Derived.Test.YthloffgebebijaaOpenK
import Derived.Test.YthloffgebebijaaWhoB
namespace Go.Proofs.Ythloffgebebijaa
open Go.ChangeShapes Go.WideShapes Go.ChangeAt Go.RowKit Go.Deep

theorem cellsC_come : Try.prog.cellsOf 58 = 5 := by kernel_rfl
theorem cellsC_bool : Try.prog.cellsOf 4 = 1 := by kernel_rfl

set_option maxRecDepth 100000 in
theorem comesC_open {H : Type} {enc : TypeId × Value → H} {W : World} {held : Bool} {fuel : Nat} {v : Value} {x : DataW H × List MemPlace} (h : DataW.trod enc Try.prog W 0 (fun _ => true) held fuel 55 [v] = some x) :
    ∃ rs : List Come5, ComesR W W.heap.size v rs ∧ (∀ r ∈ rs, r.fits) ∧ rs.length ≤ Rows.uptoBulk x.1 := by
  obtain ⟨ao, len, cap, D, rfl, hlen, hr⟩ := rowsC Try.underlying55 cellsC_come (by decide) h
  have hl := bulkC_len ((List.range len).map D)
  simp only [List.length_map, List.length_range] at hl
  rcases hr with rfl | ⟨b, o, rfl, hb, hel⟩
  · exact ⟨[], ⟨_, _, rfl, .inl rfl⟩, by simp, by simp⟩
  · have each : ∀ i, i < len → ∃ r : Come5, r.fits ∧ ComeAt W b (o + i * 5) r := by
      intro i hi
      obtain ⟨cs, n, pl, hl, hc, ht⟩ := hel i hi
      obtain ⟨xs, k, hk, hxy, _, hxl, hf⟩ := DataW.trod_struct Try.underlying58 ht
      match cs, hl with
      | [v0, v1, v2, v3, v4], _ =>
        have hl5 : xs.length = 5 := hxl
        match xs, hl5 with
        | [y0, y1, y2, y3, y4], _ =>
          have g0 := hf 0 _ rfl
          have g1 := hf 1 _ rfl
          have g2 := hf 2 _ rfl
          have g3 := hf 3 _ rfl
          have g4 := hf 4 _ rfl
          simp [cellsC_int, cellsC_bool] at g0 g1 g2 g3 g4
          obtain ⟨n0, w0, _, i0⟩ := DataW.trod_int Try.underlying3 g0
          obtain ⟨n1, w1, _, i1⟩ := DataW.trod_int Try.underlying3 g1
          obtain ⟨n2, w2, _, i2⟩ := DataW.trod_int Try.underlying3 g2
          obtain ⟨n3, w3, _, i3⟩ := DataW.trod_int Try.underlying3 g3
          obtain ⟨n4, w4, _⟩ := DataW.trod_bool Try.underlying4 g4
          simp at w0 w1 w2 w3 w4
          subst w0; subst w1; subst w2; subst w3; subst w4
          exact ⟨⟨n0, n1, n2, n3, n4⟩, ⟨bounds_i64 i0, bounds_i64 i1, bounds_i64 i2, bounds_i64 i3⟩, hc 0 (by decide), hc 1 (by decide), hc 2 (by decide), hc 3 (by decide), hc 4 (by decide)⟩
    have hin : Inhabited Come5 := ⟨⟨0, 0, 0, 0, false⟩⟩
    obtain ⟨f, hf⟩ := choose_lt each
    refine ⟨(List.range len).map f, ⟨_, cap, by simp, .inr ⟨b, o, rfl, hb, fun i t hi => ?_⟩⟩, fun t ht => ?_, by simp; omega⟩
    · obtain ⟨hlt, rfl⟩ := mapC_get hi
      exact (hf i hlt).2
    · obtain ⟨i, hi, rfl⟩ := List.mem_map.1 ht
      exact (hf i (List.mem_range.1 hi)).1

end Go.Proofs.Ythloffgebebijaa
