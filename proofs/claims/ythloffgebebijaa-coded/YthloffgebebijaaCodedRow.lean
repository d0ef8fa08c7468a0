/- CodedRow: for every input tillerkeep.Coded answers true, and its arguments read behind the call as they read before. No condition. -/
import Derived.Test.YthloffgebebijaaCoded
import Derived.ProofKit
import Derived.SizedLaws
import Derived.Deep.Slices
namespace Go.Proofs.Ythloffgebebijaa
open Go.ChangeShapes Go.WideShapes Go.ChangeAt Go.RowKit Go.Deep

theorem Try.own : ownKnob Try.prog.godebug = none := by kernel_rfl
theorem Try.laidOut : laidOutB Try.prog = true := by kernel_rfl
theorem cells_raw : Try.prog.cellsOf 72 = 5 := by kernel_rfl
theorem cells_u8 : Try.prog.cellsOf 5 = 1 := by kernel_rfl
theorem cells_int : Try.prog.cellsOf 3 = 1 := by kernel_rfl
theorem bytes_raw : Try.prog.bytesOf 72 = 40 := by kernel_rfl
theorem bytes_u8 : Try.prog.bytesOf 5 = 1 := by kernel_rfl

theorem in64_wf {n : Int} (h : (Lit.int .i64 n).wf = true) : In64 n := bounds_i64 h

set_option maxRecDepth 100000 in
/-- One element of a slice of structs of five ints. -/
theorem raw_elem {H : Type} {enc : TypeId × Value → H} {W : World} {sp : Nat → Bool} {held : Bool} {n : Nat} {a : Addr} {cs : List Value} {x : DataW H × List MemPlace} (h1 : W.cells? 0 a 5 = some cs) (h2 : DataW.trod enc Try.prog W 0 sp held n 72 cs = some x) :
    ∃ r : Raw5, r.fits ∧ W.cell? (a.add 0) = some (.int .i64 r.cost) ∧ W.cell? (a.add 1) = some (.int .i64 r.due) ∧ W.cell? (a.add 2) = some (.int .i64 r.window) ∧ W.cell? (a.add 3) = some (.int .i64 r.count) ∧ W.cell? (a.add 4) = some (.int .i64 r.more) := by
  obtain ⟨_, hlen, hcell⟩ := World.cells?_some h1
  obtain ⟨xs, k, hk, hxy, _, hxl, hf⟩ := DataW.trod_struct Try.underlying72 h2
  match cs, hlen with
  | [v0, v1, v2, v3, v4], _ =>
    have e0 := hcell 0 (by omega)
    have e1 := hcell 1 (by omega)
    have e2 := hcell 2 (by omega)
    have e3 := hcell 3 (by omega)
    have e4 := hcell 4 (by omega)
    have hl5 : xs.length = 5 := hxl
    match xs, hl5 with
    | [y0, y1, y2, y3, y4], _ =>
      have g0 := hf 0 _ rfl
      have g1 := hf 1 _ rfl
      have g2 := hf 2 _ rfl
      have g3 := hf 3 _ rfl
      have g4 := hf 4 _ rfl
      simp [cells_int] at g0 g1 g2 g3 g4
      obtain ⟨n0, w0, _, i0⟩ := DataW.trod_int Try.underlying3 g0
      obtain ⟨n1, w1, _, i1⟩ := DataW.trod_int Try.underlying3 g1
      obtain ⟨n2, w2, _, i2⟩ := DataW.trod_int Try.underlying3 g2
      obtain ⟨n3, w3, _, i3⟩ := DataW.trod_int Try.underlying3 g3
      obtain ⟨n4, w4, _, i4⟩ := DataW.trod_int Try.underlying3 g4
      simp at w0 w1 w2 w3 w4 e0 e1 e2 e3 e4
      subst w0; subst w1; subst w2; subst w3; subst w4
      exact ⟨⟨n0, n1, n2, n3, n4⟩, ⟨in64_wf i0, in64_wf i1, in64_wf i2, in64_wf i3, in64_wf i4⟩, e0, e1, e2, e3, e4⟩

theorem addr_plain {b o : Nat} (i : Nat) : (⟨b, o, none⟩ : Addr).add i = ⟨b, o + i, none⟩ := by
  by_cases h : i = 0
  · subst h; rfl
  · simp [Addr.add, h]

theorem raws_open {H : Type} {enc : TypeId × Value → H} {W : World} {held : Bool} {fuel : Nat} {v : Value} {x : DataW H × List MemPlace} (h : DataW.trod enc Try.prog W 0 (fun _ => true) held fuel 22 [v] = some x) :
    ∃ rs : List Raw5, Raws W W.heap.size v rs ∧ (∀ r ∈ rs, r.fits) ∧ (rs = [] ∨ ∃ es sp, x.1 = .slice es sp ∧ es.length = rs.length) := by
  rcases open_slice Try.underlying22 h with ⟨hcs, _⟩ | ⟨a, len, cap, m, n, D, Pl, hcs, _, hl, _, hm, hx, hel⟩
  · simp at hcs
    subst hcs
    exact ⟨[], ⟨none, 0, rfl, .inl rfl⟩, by simp, .inl rfl⟩
  · simp at hcs hm
    subst hcs
    subst hm
    rw [cells_raw] at hel
    have each : ∀ i, i < len → ∃ r : Raw5, r.fits ∧ W.cell? ((a.add (i * 5)).add 0) = some (.int .i64 r.cost) ∧ W.cell? ((a.add (i * 5)).add 1) = some (.int .i64 r.due) ∧ W.cell? ((a.add (i * 5)).add 2) = some (.int .i64 r.window) ∧ W.cell? ((a.add (i * 5)).add 3) = some (.int .i64 r.count) ∧ W.cell? ((a.add (i * 5)).add 4) = some (.int .i64 r.more) := by
      intro i hi
      obtain ⟨cs', c1, c2⟩ := hel i (by omega)
      exact raw_elem c1 c2
    have hin : Inhabited Raw5 := ⟨⟨0, 0, 0, 0, 0⟩⟩
    obtain ⟨f, hf⟩ := choose_lt each
    refine ⟨(List.range len).map f, ⟨some a, m, by simp, ?_⟩, ?_, .inr ⟨_, _, by rw [hx], by simp⟩⟩
    · by_cases h0 : len = 0
      · left; simp [h0]
      · right
        obtain ⟨b, o, spot⟩ := a
        have hs : spot = none := by
          have := (hf 0 (by omega)).2.1
          simpa [Addr.add] using World.cell?_spot this
        subst hs
        refine ⟨b, o, rfl, ?_, fun i r hi => ?_⟩
        · have := (hf 0 (by omega)).2.1
          rw [addr_plain, addr_plain] at this
          exact block_lt_of_cell this
        · have hlt := lt_of_get hi
          simp at hlt
          have hr : f i = r := by simpa [hlt] using hi
          have := hf i hlt
          rw [hr] at this
          simp only [addr_plain, Nat.add_zero] at this
          exact this.2
    · intro r hr
      obtain ⟨i, hi, rfl⟩ := List.mem_map.1 hr
      exact (hf i (List.mem_range.1 hi)).1

theorem bytes_open {H : Type} {enc : TypeId × Value → H} {W : World} {held : Bool} {fuel : Nat} {v : Value} {x : DataW H × List MemPlace} (h : DataW.trod enc Try.prog W 0 (fun _ => true) held fuel 23 [v] = some x) :
    ∃ bs : List Int, Rd8 W W.heap.size v bs ∧ AllB bs ∧ (bs = [] ∨ ∃ es sp, x.1 = .slice es sp ∧ es.length = bs.length) := by
  rcases open_ints Try.underlying23 Try.underlying5 cells_u8 h with ⟨hcs, _⟩ | ⟨a, len, cap, zs, hcs, _, hl, _, hz, hx, hcell, hwf⟩
  · simp at hcs
    subst hcs
    exact ⟨[], ⟨none, 0, rfl, Nat.le_refl _, .inl rfl⟩, (fun _ hy => absurd hy (by simp)), .inl rfl⟩
  · simp at hcs hz
    subst hcs
    have hlen : (zs.take len).length = len := by rw [List.length_take]; omega
    refine ⟨zs.take len, ⟨some a, cap, by rw [hlen], by omega, ?_⟩, ?_, .inr ⟨_, _, by rw [hx], by simp [lits]⟩⟩
    · by_cases h0 : len = 0
      · left; simp [h0]
      · right
        obtain ⟨b, o, spot⟩ := a
        have hs : spot = none := by
          have := hcell 0 (by omega)
          simpa [Addr.add] using World.cell?_spot this
        subst hs
        refine ⟨b, o, rfl, ?_, fun i y hi => ?_⟩
        · have := hcell 0 (by omega)
          rw [addr_plain] at this
          exact block_lt_of_cell this
        · have hlt := lt_of_get hi
          rw [hlen] at hlt
          have := hcell i (by omega)
          rw [addr_plain] at this
          rw [this]
          rw [List.getElem?_take, if_pos hlt] at hi
          simp [List.getD, hi]
    · intro y hy
      have := bounds_u8 (hwf y (List.mem_of_mem_take hy))
      omega

set_option maxRecDepth 100000 in
theorem coded_lifted (os : Os) (started : os.Started) (H : Type) (enc : TypeId × Value → H) :
    ReturnsInHanded {} Try.checked os 3 .any (Rows.codedSpec.pre6 enc Try.prog Try.f3 Rows.codedRow.domain false) (Rows.codedSpec.post enc Try.prog Try.f3 false true false false) := by
  refine returnsInHanded_of_change_sized (C := Try.checked) Try.own started (by kernel_rfl) Try.func3
    (ChangeSpec.witness6 (enc := enc) (C := Try.checked) false ⟨#[], #[.int .i64 0, .int .i64 0, .int .i64 0, .slice none 0 0, .int .i64 0, .int .i64 0, .slice none 0 0], []⟩ 8 (by kernel_rfl) (by kernel_rfl) (by kernel_rfl) (by kernel_rfl)) ?_
  intro W base args ds gs before hval0 hW _ hsz0 _
  have hsz : (DataW.weightsEach Try.prog (Try.f3.params.toList ++ Rows.codedSpec.plain.varTypes Try.prog) (ds ++ gs)).all (· ≤ reachBytes) = true := hsz0
  clear hsz0
  have hval : ∀ (j : Nat) t v, Try.f3.params[j]? = some t → args[j]? = some v → Value.okWide Try.prog W .any base t v := hval0
  have hW' := hW
  obtain ⟨p, q, hA0, hV, rfl, _, _⟩ := hW
  have hA : DataW.TrodAll enc Try.prog W 0 (fun _ => true) true Try.f3.params.toList args.toList ds p := hA0
  rw [Try.params3] at hA hval hsz
  obtain ⟨v0, vs0, d0, ds0, p0, q0, hargs, rfl, rfl, h0, r0⟩ := trodAll_cons hA
  obtain ⟨v1, vs1, d1, ds1, p1, q1, rfl, rfl, rfl, h1, r1⟩ := trodAll_cons r0
  obtain ⟨v2, vs2, d2, ds2, p2, q2, rfl, rfl, rfl, h2, r2⟩ := trodAll_cons r1
  obtain ⟨v3, vs3, d3, ds3, p3, q3, rfl, rfl, rfl, h3, r3⟩ := trodAll_cons r2
  obtain ⟨v4, vs4, d4, ds4, p4, q4, rfl, rfl, rfl, h4, r4⟩ := trodAll_cons r3
  obtain ⟨v5, vs5, d5, ds5, p5, q5, rfl, rfl, rfl, h5, r5⟩ := trodAll_cons r4
  obtain ⟨v6, vs6, d6, ds6, p6, q6, rfl, rfl, rfl, h6, r6⟩ := trodAll_cons r5
  obtain ⟨rfl, rfl, rfl⟩ := trodAll_nil r6
  obtain rfl : args = #[v0, v1, v2, v3, v4, v5, v6] := by cases args; simp_all
  obtain ⟨rfl, rfl⟩ := trodVars_none hV
  obtain ⟨x0, rfl, rfl, rfl, w0⟩ := open_int Try.underlying3 (hval 0 _ v0 rfl rfl) h0
  obtain ⟨x1, rfl, rfl, rfl, w1⟩ := open_int Try.underlying3 (hval 1 _ v1 rfl rfl) h1
  obtain ⟨x2, rfl, rfl, rfl, w2⟩ := open_int Try.underlying3 (hval 2 _ v2 rfl rfl) h2
  obtain ⟨x4, rfl, rfl, rfl, w4⟩ := open_int Try.underlying3 (hval 4 _ v4 rfl rfl) h4
  obtain ⟨x5, rfl, rfl, rfl, w5⟩ := open_int Try.underlying3 (hval 5 _ v5 rfl rfl) h5
  obtain ⟨a3, l3, c3, rfl⟩ := okWide_slice Try.underlying22 (hval 3 _ v3 rfl rfl)
  obtain ⟨a6, l6, c6, rfl⟩ := okWide_slice Try.underlying23 (hval 6 _ v6 rfl rfl)
  have h3k := h3
  have h6k := h6
  obtain ⟨fu3, hf3⟩ := h3
  obtain ⟨fu6, hf6⟩ := h6
  clear hA0 hval0 r0 r1 r2 r3 r4 r5 hA
  obtain ⟨rs, hraw, hfit, hrl⟩ := raws_open hf3
  obtain ⟨bs, hrd, hall, hbl⟩ := bytes_open hf6
  have hlen3 : rs.length ≤ 140737488355328 := by
    rcases hrl with rfl | ⟨es, sp, hx, hl⟩
    · simp
    · simp only at hx
      subst hx
      have := sized_slice hsz (j := 3) (t := 22) (e := 72) rfl rfl Try.underlying22
      rw [bytes_raw] at this
      simp only [reachBytes] at this
      omega
  have hlen6 : bs.length ≤ 140737488355328 := by
    rcases hbl with rfl | ⟨es, sp, hx, hl⟩
    · simp
    · simp only at hx
      subst hx
      have := sized_slice hsz (j := 6) (t := 23) (e := 5) rfl rfl Try.underlying23
      rw [bytes_u8] at this
      simp only [reachBytes] at this
      omega
  have hlt : ∀ x, x ∈ p3 ∨ x ∈ p6 → x.block < W.heap.size := fun x hx => hW'.lt x (by simp; rcases hx with hx | hx <;> simp [hx])
  refine (coded_true x0 x1 x2 x4 x5 _ _ rs bs W.heap.size W (in64_wf w0) (in64_wf w1) (in64_wf w2) (in64_wf w4) (in64_wf w5) hraw hrd (Nat.le_refl _) hfit hlen3 hlen6 hall).mono fun e W' ⟨he, hbel⟩ => ?_
  subst he
  have ha3 := Below.trod Try.laidOut (by kernel_rfl) (of_decide_eq_true (by kernel_rfl)) h3k hbel (fun x hx => hlt x (.inl hx))
  have ha6 := Below.trod Try.laidOut (by kernel_rfl) (of_decide_eq_true (by kernel_rfl)) h6k hbel (fun x hx => hlt x (.inr hx))
  exact ⟨_, rfl, _, _, _, [], _, [], hW', trodAll_mk1 (shut_bool Try.underlying4 _), trodAll_cons_mk (shut_int Try.underlying3 w0) (trodAll_cons_mk (shut_int Try.underlying3 w1) (trodAll_cons_mk (shut_int Try.underlying3 w2) (trodAll_cons_mk ha3 (trodAll_cons_mk (shut_int Try.underlying3 w4) (trodAll_cons_mk (shut_int Try.underlying3 w5) (trodAll_mk1 ha6)))))), rfl, hbel.frame _, fun h => by cases h⟩

theorem coded_holds : Rows.CodedSaid :=
  OpenClaim.holds_of_wide 3 Try.f3 rfl rfl rfl rfl rfl rfl rfl ⟨rfl, rfl, rfl, rfl, rfl⟩ rfl rfl rfl rfl rfl (by kernel_rfl) Try.func3 (by kernel_rfl)
    (of_decide_eq_true (by kernel_rfl)) (by unfold Func.isWrapper; first | (rw [if_pos (by decide +kernel)]; kernel_rfl) | (rw [if_neg (by decide +kernel)]; exact ⟨rfl, rfl⟩))
    (fun os started H enc _ => coded_lifted os started H enc)
#print axioms coded_holds

end Go.Proofs.Ythloffgebebijaa
